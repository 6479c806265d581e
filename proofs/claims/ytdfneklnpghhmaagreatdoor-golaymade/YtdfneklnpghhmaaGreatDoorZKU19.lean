/- GolayBlocks: the law, way by way (make/ku19.py). -/
import Derived.Test.YtdfneklnpghhmaaGreatDoorZKU17
import Derived.Test.YtdfneklnpghhmaaGreatDoorZKL8
import Derived.Test.YtdfneklnpghhmaaGreatDoorZL1
namespace Go.Proofs.YtdfneklnpghhmaaGreatDoor
open Go.RowKit Go.Sort
attribute [local go_sem] run_fieldRows

set_option maxHeartbeats 8000000 in
set_option maxRecDepth 100000 in
theorem gbw_Cx (q n wt r : Int) {ao : Option Addr} {m ca : Nat} {w : World} (E : Int) (hE : E ≠ 0)
    (pHV : ∀ wx, Below w.heap.size w wx → Calls Tryz.prog 5 #[.slice ao m ca] wx fun r w' => r = .returned (.bool false) ∧ w' = wx)
    (pWM : ∀ wx, Below w.heap.size w wx → Calls Tryz.prog 6 #[.agg #[.int .i64 q, .int .i64 n, .slice ao m ca]] wx fun x w' => x = .returned (.int .i64 E) ∧ Below wx.heap.size wx w')
    (pGB : ∀ wx, Below w.heap.size w wx → Calls Tryz.prog 8 #[.agg #[.int .i64 q, .int .i64 n, .slice ao m ca], .int .i64 wt] wx fun x w' => x = .returned (.tuple #[.slice none 0 0, .int .i64 E]) ∧ Below wx.heap.size wx w')
    (pPF : ∀ wx, Below w.heap.size w wx → Calls Tryz.prog 11 #[.agg #[.int .i64 q, .int .i64 n, .slice ao m ca], .int .i64 r] wx fun x w' => x = .returned (.tuple #[.bool false, .int .i64 E]) ∧ Below wx.heap.size wx w')
    : Calls Tryz.prog 3 #[.agg #[.int .i64 q, .int .i64 n, .slice ao m ca], .int .i64 wt, .int .i64 r] w fun x w' => x = .returned (.bool true) ∧ Below w.heap.size w w' := by
  have HV : Hid (∀ wx, Below w.heap.size w wx → Calls Tryz.prog 5 #[.slice ao m ca] wx fun r w' => r = .returned (.bool false) ∧ w' = wx) := pHV
  have WM : Hid (∀ wx, Below w.heap.size w wx → Calls Tryz.prog 6 #[.agg #[.int .i64 q, .int .i64 n, .slice ao m ca]] wx fun x w' => x = .returned (.int .i64 E) ∧ Below wx.heap.size wx w') := pWM
  have GB : Hid (∀ wx, Below w.heap.size w wx → Calls Tryz.prog 8 #[.agg #[.int .i64 q, .int .i64 n, .slice ao m ca], .int .i64 wt] wx fun x w' => x = .returned (.tuple #[.slice none 0 0, .int .i64 E]) ∧ Below wx.heap.size wx w') := pGB
  have PF : Hid (∀ wx, Below w.heap.size w wx → Calls Tryz.prog 11 #[.agg #[.int .i64 q, .int .i64 n, .slice ao m ca], .int .i64 r] wx fun x w' => x = .returned (.tuple #[.bool false, .int .i64 E]) ∧ Below wx.heap.size wx w') := pPF
  clear pHV pWM pGB pPF
  obtain ⟨w0, hw0⟩ : ∃ w0, w0 = w.alloc (.cells #[.int .i64 q, .int .i64 n, .slice ao m ca] 24) := ⟨_, rfl⟩
  have H0 : Hid (Below w.heap.size w w0 ∧ CB w.heap.size q n (.slice ao m ca) w0 ∧ w0.heap.size = w.heap.size + 1) := by
    have := box_at q n (.slice ao m ca) w
    rw [← hw0] at this; exact this
  obtain ⟨q0, q1, q2⟩ := H0.out.2.1
  rw [hw0] at q0 q1 q2
  have hz : (E == 0) = false := beq_eq_false_iff_ne.2 hE
  have hz2 : (E != 0) = true := bne_iff_ne.2 hE
  go_enter Tryz.func3, Tryz.ntmps3
  go_wp2_with fail
  rw [← hw0]
  clear q0 q1 q2 hw0
  refine (HV.out w0 H0.out.1).mono ?_
  rintro x wH ⟨rfl, hw⟩
  have hw := hw.symm
  subst hw
  obtain ⟨c0, c1, c2⟩ := H0.out.2.1
  go_wp2_with fail
  refine (WM.out w0 H0.out.1).mono ?_
  rintro x w1 ⟨rfl, hb1⟩
  have H1 : Hid (Below w.heap.size w w1 ∧ CB w.heap.size q n (.slice ao m ca) w1) := ⟨below_two' H0.out.1 hb1, H0.out.2.1.keep hb1⟩
  clear hb1 c0 c1 c2
  obtain ⟨c0, c1, c2⟩ := H1.out.2
  go_wp2_with fail
  refine (GB.out w1 H1.out.1).mono ?_
  rintro x w2 ⟨rfl, hb2⟩
  have H2 : Hid (Below w.heap.size w w2 ∧ CB w.heap.size q n (.slice ao m ca) w2) := ⟨below_two' H1.out.1 hb2, H1.out.2.keep hb2⟩
  clear hb2 c0 c1 c2
  obtain ⟨c0, c1, c2⟩ := H2.out.2
  go_wp2_with fail
  refine (lists_err2 E hE none 0 _ w2).mono ?_
  rintro x w3 ⟨rfl, hw⟩
  have hw := hw.symm
  subst hw
  go_wp2_with fail
  refine (PF.out w2 H2.out.1).mono ?_
  rintro x wP ⟨rfl, hbP⟩
  have HP : Hid (Below w.heap.size w wP ∧ CB w.heap.size q n (.slice ao m ca) wP) := ⟨below_two' H2.out.1 hbP, H2.out.2.keep hbP⟩
  clear hbP c0 c1 c2
  obtain ⟨c0, c1, c2⟩ := HP.out.2
  go_wp2
  go_ret
  exact ⟨by first | rfl | simp, HP.out.1⟩
set_option maxHeartbeats 8000000 in
set_option maxRecDepth 100000 in
theorem gbw_Ay (q n wt r : Int) {ao : Option Addr} {m ca : Nat} {w : World} (hwt : wt < 1 ∨ n < wt) (E2 : Int) (hE2 : E2 ≠ 0)
    (pHV : ∀ wx, Below w.heap.size w wx → Calls Tryz.prog 5 #[.slice ao m ca] wx fun r w' => r = .returned (.bool false) ∧ w' = wx)
    (pWM : ∀ wx, Below w.heap.size w wx → Calls Tryz.prog 6 #[.agg #[.int .i64 q, .int .i64 n, .slice ao m ca]] wx fun x w' => x = .returned (.int .i64 0) ∧ Below wx.heap.size wx w')
    (pGB : ∀ wx, Below w.heap.size w wx → Calls Tryz.prog 8 #[.agg #[.int .i64 q, .int .i64 n, .slice ao m ca], .int .i64 wt] wx fun x w' => x = .returned (.tuple #[.slice none 0 0, .int .i64 10]) ∧ Below wx.heap.size wx w')
    (pCM : ∀ wx, Calls Tryz.prog 10 #[.int .i64 q, .int .i64 n] wx fun x w' => x = .returned (.int .i64 E2) ∧ Below wx.heap.size wx w')
    (pPF : ∀ wx, Below w.heap.size w wx → Calls Tryz.prog 11 #[.agg #[.int .i64 q, .int .i64 n, .slice ao m ca], .int .i64 r] wx fun x w' => x = .returned (.tuple #[.bool false, .int .i64 E2]) ∧ Below wx.heap.size wx w')
    : Calls Tryz.prog 3 #[.agg #[.int .i64 q, .int .i64 n, .slice ao m ca], .int .i64 wt, .int .i64 r] w fun x w' => x = .returned (.bool true) ∧ Below w.heap.size w w' := by
  have HV : Hid (∀ wx, Below w.heap.size w wx → Calls Tryz.prog 5 #[.slice ao m ca] wx fun r w' => r = .returned (.bool false) ∧ w' = wx) := pHV
  have WM : Hid (∀ wx, Below w.heap.size w wx → Calls Tryz.prog 6 #[.agg #[.int .i64 q, .int .i64 n, .slice ao m ca]] wx fun x w' => x = .returned (.int .i64 0) ∧ Below wx.heap.size wx w') := pWM
  have GB : Hid (∀ wx, Below w.heap.size w wx → Calls Tryz.prog 8 #[.agg #[.int .i64 q, .int .i64 n, .slice ao m ca], .int .i64 wt] wx fun x w' => x = .returned (.tuple #[.slice none 0 0, .int .i64 10]) ∧ Below wx.heap.size wx w') := pGB
  have CM : Hid (∀ wx, Calls Tryz.prog 10 #[.int .i64 q, .int .i64 n] wx fun x w' => x = .returned (.int .i64 E2) ∧ Below wx.heap.size wx w') := pCM
  have PF : Hid (∀ wx, Below w.heap.size w wx → Calls Tryz.prog 11 #[.agg #[.int .i64 q, .int .i64 n, .slice ao m ca], .int .i64 r] wx fun x w' => x = .returned (.tuple #[.bool false, .int .i64 E2]) ∧ Below wx.heap.size wx w') := pPF
  clear pHV pWM pGB pCM pPF
  obtain ⟨w0, hw0⟩ : ∃ w0, w0 = w.alloc (.cells #[.int .i64 q, .int .i64 n, .slice ao m ca] 24) := ⟨_, rfl⟩
  have H0 : Hid (Below w.heap.size w w0 ∧ CB w.heap.size q n (.slice ao m ca) w0 ∧ w0.heap.size = w.heap.size + 1) := by
    have := box_at q n (.slice ao m ca) w
    rw [← hw0] at this; exact this
  obtain ⟨q0, q1, q2⟩ := H0.out.2.1
  rw [hw0] at q0 q1 q2
  have hy : (E2 == 0) = false := beq_eq_false_iff_ne.2 hE2
  have hy2 : (E2 != 0) = true := bne_iff_ne.2 hE2
  go_enter Tryz.func3, Tryz.ntmps3
  go_wp2_with fail
  rw [← hw0]
  clear q0 q1 q2 hw0
  refine (HV.out w0 H0.out.1).mono ?_
  rintro x wH ⟨rfl, hw⟩
  have hw := hw.symm
  subst hw
  obtain ⟨c0, c1, c2⟩ := H0.out.2.1
  go_wp2_with fail
  refine (WM.out w0 H0.out.1).mono ?_
  rintro x w1 ⟨rfl, hb1⟩
  have H1 : Hid (Below w.heap.size w w1 ∧ CB w.heap.size q n (.slice ao m ca) w1) := ⟨below_two' H0.out.1 hb1, H0.out.2.1.keep hb1⟩
  clear hb1 c0 c1 c2
  obtain ⟨c0, c1, c2⟩ := H1.out.2
  by_cases hw1 : wt < 1
  · go_wp2_with fail
    refine (GB.out w1 H1.out.1).mono ?_
    rintro x w2 ⟨rfl, hb2⟩
    have H2 : Hid (Below w.heap.size w w2 ∧ CB w.heap.size q n (.slice ao m ca) w2) := ⟨below_two' H1.out.1 hb2, H1.out.2.keep hb2⟩
    clear hb2 c0 c1 c2
    obtain ⟨c0, c1, c2⟩ := H2.out.2
    go_wp2_with fail
    refine (lists_err2 10 (by omega) none 0 _ w2).mono ?_
    rintro x w3 ⟨rfl, hw⟩
    have hw := hw.symm
    subst hw
    go_wp2_with fail
    refine (CM.out w2).mono ?_
    rintro x wC ⟨rfl, hbC⟩
    have HC : Hid (Below w.heap.size w wC ∧ CB w.heap.size q n (.slice ao m ca) wC) := ⟨below_two' H2.out.1 hbC, H2.out.2.keep hbC⟩
    clear hbC c0 c1 c2
    obtain ⟨c0, c1, c2⟩ := HC.out.2
    go_wp2_with fail
    refine (PF.out wC HC.out.1).mono ?_
    rintro x wP ⟨rfl, hbP⟩
    have HP : Hid (Below w.heap.size w wP ∧ CB w.heap.size q n (.slice ao m ca) wP) := ⟨below_two' HC.out.1 hbP, HC.out.2.keep hbP⟩
    clear hbP c0 c1 c2
    obtain ⟨c0, c1, c2⟩ := HP.out.2
    go_wp2
    go_ret
    exact ⟨by first | rfl | simp, HP.out.1⟩
  · have hw2 : wt > n := hwt.elim (fun h => absurd h hw1) id
    go_wp2_with fail
    refine (GB.out w1 H1.out.1).mono ?_
    rintro x w2 ⟨rfl, hb2⟩
    have H2 : Hid (Below w.heap.size w w2 ∧ CB w.heap.size q n (.slice ao m ca) w2) := ⟨below_two' H1.out.1 hb2, H1.out.2.keep hb2⟩
    clear hb2 c0 c1 c2
    obtain ⟨c0, c1, c2⟩ := H2.out.2
    go_wp2_with fail
    refine (lists_err2 10 (by omega) none 0 _ w2).mono ?_
    rintro x w3 ⟨rfl, hw⟩
    have hw := hw.symm
    subst hw
    go_wp2_with fail
    refine (CM.out w2).mono ?_
    rintro x wC ⟨rfl, hbC⟩
    have HC : Hid (Below w.heap.size w wC ∧ CB w.heap.size q n (.slice ao m ca) wC) := ⟨below_two' H2.out.1 hbC, H2.out.2.keep hbC⟩
    clear hbC c0 c1 c2
    obtain ⟨c0, c1, c2⟩ := HC.out.2
    go_wp2_with fail
    refine (PF.out wC HC.out.1).mono ?_
    rintro x wP ⟨rfl, hbP⟩
    have HP : Hid (Below w.heap.size w wP ∧ CB w.heap.size q n (.slice ao m ca) wP) := ⟨below_two' HC.out.1 hbP, HC.out.2.keep hbP⟩
    clear hbP c0 c1 c2
    obtain ⟨c0, c1, c2⟩ := HP.out.2
    go_wp2
    go_ret
    exact ⟨by first | rfl | simp, HP.out.1⟩
set_option maxHeartbeats 8000000 in
set_option maxRecDepth 100000 in
theorem gbw_Az (q n wt r : Int) {ao : Option Addr} {m ca : Nat} {w : World} (hwt : wt < 1 ∨ n < wt) (hr : r < 0 ∨ n < r)
    (pHV : ∀ wx, Below w.heap.size w wx → Calls Tryz.prog 5 #[.slice ao m ca] wx fun r w' => r = .returned (.bool false) ∧ w' = wx)
    (pWM : ∀ wx, Below w.heap.size w wx → Calls Tryz.prog 6 #[.agg #[.int .i64 q, .int .i64 n, .slice ao m ca]] wx fun x w' => x = .returned (.int .i64 0) ∧ Below wx.heap.size wx w')
    (pGB : ∀ wx, Below w.heap.size w wx → Calls Tryz.prog 8 #[.agg #[.int .i64 q, .int .i64 n, .slice ao m ca], .int .i64 wt] wx fun x w' => x = .returned (.tuple #[.slice none 0 0, .int .i64 10]) ∧ Below wx.heap.size wx w')
    (pCM : ∀ wx, Calls Tryz.prog 10 #[.int .i64 q, .int .i64 n] wx fun x w' => x = .returned (.int .i64 0) ∧ Below wx.heap.size wx w')
    (pPF : ∀ wx, Below w.heap.size w wx → Calls Tryz.prog 11 #[.agg #[.int .i64 q, .int .i64 n, .slice ao m ca], .int .i64 r] wx fun x w' => x = .returned (.tuple #[.bool false, .int .i64 10]) ∧ Below wx.heap.size wx w')
    : Calls Tryz.prog 3 #[.agg #[.int .i64 q, .int .i64 n, .slice ao m ca], .int .i64 wt, .int .i64 r] w fun x w' => x = .returned (.bool true) ∧ Below w.heap.size w w' := by
  have HV : Hid (∀ wx, Below w.heap.size w wx → Calls Tryz.prog 5 #[.slice ao m ca] wx fun r w' => r = .returned (.bool false) ∧ w' = wx) := pHV
  have WM : Hid (∀ wx, Below w.heap.size w wx → Calls Tryz.prog 6 #[.agg #[.int .i64 q, .int .i64 n, .slice ao m ca]] wx fun x w' => x = .returned (.int .i64 0) ∧ Below wx.heap.size wx w') := pWM
  have GB : Hid (∀ wx, Below w.heap.size w wx → Calls Tryz.prog 8 #[.agg #[.int .i64 q, .int .i64 n, .slice ao m ca], .int .i64 wt] wx fun x w' => x = .returned (.tuple #[.slice none 0 0, .int .i64 10]) ∧ Below wx.heap.size wx w') := pGB
  have CM : Hid (∀ wx, Calls Tryz.prog 10 #[.int .i64 q, .int .i64 n] wx fun x w' => x = .returned (.int .i64 0) ∧ Below wx.heap.size wx w') := pCM
  have PF : Hid (∀ wx, Below w.heap.size w wx → Calls Tryz.prog 11 #[.agg #[.int .i64 q, .int .i64 n, .slice ao m ca], .int .i64 r] wx fun x w' => x = .returned (.tuple #[.bool false, .int .i64 10]) ∧ Below wx.heap.size wx w') := pPF
  clear pHV pWM pGB pCM pPF
  obtain ⟨w0, hw0⟩ : ∃ w0, w0 = w.alloc (.cells #[.int .i64 q, .int .i64 n, .slice ao m ca] 24) := ⟨_, rfl⟩
  have H0 : Hid (Below w.heap.size w w0 ∧ CB w.heap.size q n (.slice ao m ca) w0 ∧ w0.heap.size = w.heap.size + 1) := by
    have := box_at q n (.slice ao m ca) w
    rw [← hw0] at this; exact this
  obtain ⟨q0, q1, q2⟩ := H0.out.2.1
  rw [hw0] at q0 q1 q2
  go_enter Tryz.func3, Tryz.ntmps3
  go_wp2_with fail
  rw [← hw0]
  clear q0 q1 q2 hw0
  refine (HV.out w0 H0.out.1).mono ?_
  rintro x wH ⟨rfl, hw⟩
  have hw := hw.symm
  subst hw
  obtain ⟨c0, c1, c2⟩ := H0.out.2.1
  go_wp2_with fail
  refine (WM.out w0 H0.out.1).mono ?_
  rintro x w1 ⟨rfl, hb1⟩
  have H1 : Hid (Below w.heap.size w w1 ∧ CB w.heap.size q n (.slice ao m ca) w1) := ⟨below_two' H0.out.1 hb1, H0.out.2.1.keep hb1⟩
  clear hb1 c0 c1 c2
  obtain ⟨c0, c1, c2⟩ := H1.out.2
  by_cases hw1 : wt < 1
  · go_wp2_with fail
    refine (GB.out w1 H1.out.1).mono ?_
    rintro x w2 ⟨rfl, hb2⟩
    have H2 : Hid (Below w.heap.size w w2 ∧ CB w.heap.size q n (.slice ao m ca) w2) := ⟨below_two' H1.out.1 hb2, H1.out.2.keep hb2⟩
    clear hb2 c0 c1 c2
    obtain ⟨c0, c1, c2⟩ := H2.out.2
    go_wp2_with fail
    refine (lists_err2 10 (by omega) none 0 _ w2).mono ?_
    rintro x w3 ⟨rfl, hw⟩
    have hw := hw.symm
    subst hw
    go_wp2_with fail
    refine (CM.out w2).mono ?_
    rintro x wC ⟨rfl, hbC⟩
    have HC : Hid (Below w.heap.size w wC ∧ CB w.heap.size q n (.slice ao m ca) wC) := ⟨below_two' H2.out.1 hbC, H2.out.2.keep hbC⟩
    clear hbC c0 c1 c2
    obtain ⟨c0, c1, c2⟩ := HC.out.2
    by_cases hr1 : r < 0
    · go_wp2_with fail
      refine (PF.out wC HC.out.1).mono ?_
      rintro x wP ⟨rfl, hbP⟩
      have HP : Hid (Below w.heap.size w wP ∧ CB w.heap.size q n (.slice ao m ca) wP) := ⟨below_two' HC.out.1 hbP, HC.out.2.keep hbP⟩
      clear hbP c0 c1 c2
      obtain ⟨c0, c1, c2⟩ := HP.out.2
      go_wp2
      go_ret
      exact ⟨by first | rfl | simp, HP.out.1⟩
    · have hr2 : r > n := hr.elim (fun h => absurd h hr1) id
      go_wp2_with fail
      refine (PF.out wC HC.out.1).mono ?_
      rintro x wP ⟨rfl, hbP⟩
      have HP : Hid (Below w.heap.size w wP ∧ CB w.heap.size q n (.slice ao m ca) wP) := ⟨below_two' HC.out.1 hbP, HC.out.2.keep hbP⟩
      clear hbP c0 c1 c2
      obtain ⟨c0, c1, c2⟩ := HP.out.2
      go_wp2
      go_ret
      exact ⟨by first | rfl | simp, HP.out.1⟩
  · have hw2 : wt > n := hwt.elim (fun h => absurd h hw1) id
    go_wp2_with fail
    refine (GB.out w1 H1.out.1).mono ?_
    rintro x w2 ⟨rfl, hb2⟩
    have H2 : Hid (Below w.heap.size w w2 ∧ CB w.heap.size q n (.slice ao m ca) w2) := ⟨below_two' H1.out.1 hb2, H1.out.2.keep hb2⟩
    clear hb2 c0 c1 c2
    obtain ⟨c0, c1, c2⟩ := H2.out.2
    go_wp2_with fail
    refine (lists_err2 10 (by omega) none 0 _ w2).mono ?_
    rintro x w3 ⟨rfl, hw⟩
    have hw := hw.symm
    subst hw
    go_wp2_with fail
    refine (CM.out w2).mono ?_
    rintro x wC ⟨rfl, hbC⟩
    have HC : Hid (Below w.heap.size w wC ∧ CB w.heap.size q n (.slice ao m ca) wC) := ⟨below_two' H2.out.1 hbC, H2.out.2.keep hbC⟩
    clear hbC c0 c1 c2
    obtain ⟨c0, c1, c2⟩ := HC.out.2
    by_cases hr1 : r < 0
    · go_wp2_with fail
      refine (PF.out wC HC.out.1).mono ?_
      rintro x wP ⟨rfl, hbP⟩
      have HP : Hid (Below w.heap.size w wP ∧ CB w.heap.size q n (.slice ao m ca) wP) := ⟨below_two' HC.out.1 hbP, HC.out.2.keep hbP⟩
      clear hbP c0 c1 c2
      obtain ⟨c0, c1, c2⟩ := HP.out.2
      go_wp2
      go_ret
      exact ⟨by first | rfl | simp, HP.out.1⟩
    · have hr2 : r > n := hr.elim (fun h => absurd h hr1) id
      go_wp2_with fail
      refine (PF.out wC HC.out.1).mono ?_
      rintro x wP ⟨rfl, hbP⟩
      have HP : Hid (Below w.heap.size w wP ∧ CB w.heap.size q n (.slice ao m ca) wP) := ⟨below_two' HC.out.1 hbP, HC.out.2.keep hbP⟩
      clear hbP c0 c1 c2
      obtain ⟨c0, c1, c2⟩ := HP.out.2
      go_wp2
      go_ret
      exact ⟨by first | rfl | simp, HP.out.1⟩
set_option maxHeartbeats 8000000 in
set_option maxRecDepth 100000 in
theorem gbw_Av1 (q n wt r : Int) {ao : Option Addr} {m ca : Nat} {w : World} (hwt : wt < 1 ∨ n < wt) (hr1 : ¬ r < 0) (hr2 : ¬ r > n) (hr3 : r ≤ 1000) {tb : Bool} {k d nk al bl r2 : Nat} (hnk : n - (k : Int) = (nk : Int)) (hnk2 : nk ≤ 1000) (hr2i : (2 : Int) * r = (r2 : Int)) (hr2b : r2 ≤ 10000) (hd : d = 0) (htb : ((bl : Int) == (al : Int)) = tb)
    (pHV : ∀ wx, Below w.heap.size w wx → Calls Tryz.prog 5 #[.slice ao m ca] wx fun r w' => r = .returned (.bool false) ∧ w' = wx)
    (pWM : ∀ wx, Below w.heap.size w wx → Calls Tryz.prog 6 #[.agg #[.int .i64 q, .int .i64 n, .slice ao m ca]] wx fun x w' => x = .returned (.int .i64 0) ∧ Below wx.heap.size wx w')
    (pGB : ∀ wx, Below w.heap.size w wx → Calls Tryz.prog 8 #[.agg #[.int .i64 q, .int .i64 n, .slice ao m ca], .int .i64 wt] wx fun x w' => x = .returned (.tuple #[.slice none 0 0, .int .i64 10]) ∧ Below wx.heap.size wx w')
    (pCM : ∀ wx, Calls Tryz.prog 10 #[.int .i64 q, .int .i64 n] wx fun x w' => x = .returned (.int .i64 0) ∧ Below wx.heap.size wx w')
    (pPF : ∀ wx, Below w.heap.size w wx → Calls Tryz.prog 11 #[.agg #[.int .i64 q, .int .i64 n, .slice ao m ca], .int .i64 r] wx fun x w' => x = .returned (.tuple #[.bool tb, .int .i64 0]) ∧ Below wx.heap.size wx w')
    (pMD : ∀ wx, Below w.heap.size w wx → Calls Tryz.prog 12 #[.agg #[.int .i64 q, .int .i64 n, .slice ao m ca]] wx fun x w' => ∃ ro rc, x = .returned (.agg #[.int .i64 q, .int .i64 n, .slice ro k rc]) ∧ Below wx.heap.size wx w')
    (pWD : ∀ wx, Below w.heap.size w wx → Calls Tryz.prog 14 #[.agg #[.int .i64 q, .int .i64 n, .slice ao m ca]] wx fun x w' => ∃ go gk gc, x = .returned (.slice go gk gc) ∧ Below wx.heap.size wx w' ∧ Calls Tryz.prog 13 #[.slice go gk gc] w' fun y w2 => y = .returned (.int .i64 (d : Nat)) ∧ w2 = w')
    (pPW : ∀ wx, Calls Tryz.prog 15 #[.int .i64 q, .int .i64 (nk : Nat)] wx fun x w' => x = .returned (.int .i64 (al : Nat)) ∧ Below wx.heap.size wx w')
    (pBL : ∀ wx, Calls Tryz.prog 16 #[.int .i64 q, .int .i64 n, .int .i64 r] wx fun x w' => x = .returned (.int .i64 (bl : Nat)) ∧ Below wx.heap.size wx w')
    : Calls Tryz.prog 3 #[.agg #[.int .i64 q, .int .i64 n, .slice ao m ca], .int .i64 wt, .int .i64 r] w fun x w' => x = .returned (.bool true) ∧ Below w.heap.size w w' := by
  have HV : Hid (∀ wx, Below w.heap.size w wx → Calls Tryz.prog 5 #[.slice ao m ca] wx fun r w' => r = .returned (.bool false) ∧ w' = wx) := pHV
  have WM : Hid (∀ wx, Below w.heap.size w wx → Calls Tryz.prog 6 #[.agg #[.int .i64 q, .int .i64 n, .slice ao m ca]] wx fun x w' => x = .returned (.int .i64 0) ∧ Below wx.heap.size wx w') := pWM
  have GB : Hid (∀ wx, Below w.heap.size w wx → Calls Tryz.prog 8 #[.agg #[.int .i64 q, .int .i64 n, .slice ao m ca], .int .i64 wt] wx fun x w' => x = .returned (.tuple #[.slice none 0 0, .int .i64 10]) ∧ Below wx.heap.size wx w') := pGB
  have CM : Hid (∀ wx, Calls Tryz.prog 10 #[.int .i64 q, .int .i64 n] wx fun x w' => x = .returned (.int .i64 0) ∧ Below wx.heap.size wx w') := pCM
  have PF : Hid (∀ wx, Below w.heap.size w wx → Calls Tryz.prog 11 #[.agg #[.int .i64 q, .int .i64 n, .slice ao m ca], .int .i64 r] wx fun x w' => x = .returned (.tuple #[.bool tb, .int .i64 0]) ∧ Below wx.heap.size wx w') := pPF
  have MD : Hid (∀ wx, Below w.heap.size w wx → Calls Tryz.prog 12 #[.agg #[.int .i64 q, .int .i64 n, .slice ao m ca]] wx fun x w' => ∃ ro rc, x = .returned (.agg #[.int .i64 q, .int .i64 n, .slice ro k rc]) ∧ Below wx.heap.size wx w') := pMD
  have WD : Hid (∀ wx, Below w.heap.size w wx → Calls Tryz.prog 14 #[.agg #[.int .i64 q, .int .i64 n, .slice ao m ca]] wx fun x w' => ∃ go gk gc, x = .returned (.slice go gk gc) ∧ Below wx.heap.size wx w' ∧ Calls Tryz.prog 13 #[.slice go gk gc] w' fun y w2 => y = .returned (.int .i64 (d : Nat)) ∧ w2 = w') := pWD
  have PW : Hid (∀ wx, Calls Tryz.prog 15 #[.int .i64 q, .int .i64 (nk : Nat)] wx fun x w' => x = .returned (.int .i64 (al : Nat)) ∧ Below wx.heap.size wx w') := pPW
  have BL : Hid (∀ wx, Calls Tryz.prog 16 #[.int .i64 q, .int .i64 n, .int .i64 r] wx fun x w' => x = .returned (.int .i64 (bl : Nat)) ∧ Below wx.heap.size wx w') := pBL
  clear pHV pWM pGB pCM pPF pMD pWD pPW pBL
  obtain ⟨w0, hw0⟩ : ∃ w0, w0 = w.alloc (.cells #[.int .i64 q, .int .i64 n, .slice ao m ca] 24) := ⟨_, rfl⟩
  have H0 : Hid (Below w.heap.size w w0 ∧ CB w.heap.size q n (.slice ao m ca) w0 ∧ w0.heap.size = w.heap.size + 1) := by
    have := box_at q n (.slice ao m ca) w
    rw [← hw0] at this; exact this
  obtain ⟨q0, q1, q2⟩ := H0.out.2.1
  rw [hw0] at q0 q1 q2
  have wnk : IntKind.i64.wrap (nk : Int) = (nk : Int) := wrap_to (by omega) (by omega)
  have wr2 : IntKind.i64.wrap (r2 : Int) = (r2 : Int) := wrap_to (by omega) (by omega)
  subst hd
  have HNk : Hid (∀ e : Int, e = (nk : Int) → e = (nk : Int)) := fun _ h => h
  go_enter Tryz.func3, Tryz.ntmps3
  go_wp2_with fail
  rw [← hw0]
  clear q0 q1 q2 hw0
  refine (HV.out w0 H0.out.1).mono ?_
  rintro x wH ⟨rfl, hw⟩
  have hw := hw.symm
  subst hw
  obtain ⟨c0, c1, c2⟩ := H0.out.2.1
  go_wp2_with fail
  refine (WM.out w0 H0.out.1).mono ?_
  rintro x w1 ⟨rfl, hb1⟩
  have H1 : Hid (Below w.heap.size w w1 ∧ CB w.heap.size q n (.slice ao m ca) w1) := ⟨below_two' H0.out.1 hb1, H0.out.2.1.keep hb1⟩
  clear hb1 c0 c1 c2
  obtain ⟨c0, c1, c2⟩ := H1.out.2
  by_cases hw1 : wt < 1
  · go_wp2_with fail
    refine (GB.out w1 H1.out.1).mono ?_
    rintro x w2 ⟨rfl, hb2⟩
    have H2 : Hid (Below w.heap.size w w2 ∧ CB w.heap.size q n (.slice ao m ca) w2) := ⟨below_two' H1.out.1 hb2, H1.out.2.keep hb2⟩
    clear hb2 c0 c1 c2
    obtain ⟨c0, c1, c2⟩ := H2.out.2
    go_wp2_with fail
    refine (lists_err2 10 (by omega) none 0 _ w2).mono ?_
    rintro x w3 ⟨rfl, hw⟩
    have hw := hw.symm
    subst hw
    go_wp2_with fail
    refine (CM.out w2).mono ?_
    rintro x wC ⟨rfl, hbC⟩
    have HC : Hid (Below w.heap.size w wC ∧ CB w.heap.size q n (.slice ao m ca) wC) := ⟨below_two' H2.out.1 hbC, H2.out.2.keep hbC⟩
    clear hbC c0 c1 c2
    obtain ⟨c0, c1, c2⟩ := HC.out.2
    go_wp2_with fail
    refine (PF.out wC HC.out.1).mono ?_
    rintro x wP ⟨rfl, hbP⟩
    have HP : Hid (Below w.heap.size w wP ∧ CB w.heap.size q n (.slice ao m ca) wP) := ⟨below_two' HC.out.1 hbP, HC.out.2.keep hbP⟩
    clear hbP c0 c1 c2
    obtain ⟨c0, c1, c2⟩ := HP.out.2
    go_wp2_with fail
    refine (MD.out wP HP.out.1).mono ?_
    rintro x wM ⟨ro, rc, rfl, hbM⟩
    have HM : Hid (Below w.heap.size w wM ∧ CB w.heap.size q n (.slice ao m ca) wM) := ⟨below_two' HP.out.1 hbM, HP.out.2.keep hbM⟩
    clear hbM c0 c1 c2
    obtain ⟨c0, c1, c2⟩ := HM.out.2
    go_wp2_with fail
    refine (WD.out wM HM.out.1).mono ?_
    rintro x wW ⟨go, gk, gc, rfl, hbW, hLe⟩
    have HLe : Hid (Calls Tryz.prog 13 #[.slice go gk gc] wW fun y w2 => y = .returned (.int .i64 (0 : Nat)) ∧ w2 = wW) := hLe
    have HW : Hid (Below w.heap.size w wW ∧ CB w.heap.size q n (.slice ao m ca) wW) := ⟨below_two' HM.out.1 hbW, HM.out.2.keep hbW⟩
    clear hbW c0 c1 c2 hLe
    obtain ⟨c0, c1, c2⟩ := HW.out.2
    go_wp2_with fail
    refine HLe.out.mono ?_
    rintro x wL ⟨rfl, hw⟩
    have hw := hw.symm
    subst hw
    go_wp2_with fail
    refine (PW.out wW).mono ?_
    rintro x wA ⟨rfl, hbA⟩
    have HAx : Hid (Below w.heap.size w wA ∧ CB w.heap.size q n (.slice ao m ca) wA) := ⟨below_two' HW.out.1 hbA, HW.out.2.keep hbA⟩
    clear hbA c0 c1 c2
    obtain ⟨c0, c1, c2⟩ := HAx.out.2
    go_wp2_with fail
    refine (BL.out wA).mono ?_
    rintro x wB ⟨rfl, hbB⟩
    have HB : Hid (Below w.heap.size w wB) := below_two' HAx.out.1 hbB
    clear hbB c0 c1 c2
    go_wp2
    go_ret
    exact ⟨by first | rfl | (rw [htb]; simp) | simp [htb], HB.out⟩
  · have hw2 : wt > n := hwt.elim (fun h => absurd h hw1) id
    go_wp2_with fail
    refine (GB.out w1 H1.out.1).mono ?_
    rintro x w2 ⟨rfl, hb2⟩
    have H2 : Hid (Below w.heap.size w w2 ∧ CB w.heap.size q n (.slice ao m ca) w2) := ⟨below_two' H1.out.1 hb2, H1.out.2.keep hb2⟩
    clear hb2 c0 c1 c2
    obtain ⟨c0, c1, c2⟩ := H2.out.2
    go_wp2_with fail
    refine (lists_err2 10 (by omega) none 0 _ w2).mono ?_
    rintro x w3 ⟨rfl, hw⟩
    have hw := hw.symm
    subst hw
    go_wp2_with fail
    refine (CM.out w2).mono ?_
    rintro x wC ⟨rfl, hbC⟩
    have HC : Hid (Below w.heap.size w wC ∧ CB w.heap.size q n (.slice ao m ca) wC) := ⟨below_two' H2.out.1 hbC, H2.out.2.keep hbC⟩
    clear hbC c0 c1 c2
    obtain ⟨c0, c1, c2⟩ := HC.out.2
    go_wp2_with fail
    refine (PF.out wC HC.out.1).mono ?_
    rintro x wP ⟨rfl, hbP⟩
    have HP : Hid (Below w.heap.size w wP ∧ CB w.heap.size q n (.slice ao m ca) wP) := ⟨below_two' HC.out.1 hbP, HC.out.2.keep hbP⟩
    clear hbP c0 c1 c2
    obtain ⟨c0, c1, c2⟩ := HP.out.2
    go_wp2_with fail
    refine (MD.out wP HP.out.1).mono ?_
    rintro x wM ⟨ro, rc, rfl, hbM⟩
    have HM : Hid (Below w.heap.size w wM ∧ CB w.heap.size q n (.slice ao m ca) wM) := ⟨below_two' HP.out.1 hbM, HP.out.2.keep hbM⟩
    clear hbM c0 c1 c2
    obtain ⟨c0, c1, c2⟩ := HM.out.2
    go_wp2_with fail
    refine (WD.out wM HM.out.1).mono ?_
    rintro x wW ⟨go, gk, gc, rfl, hbW, hLe⟩
    have HLe : Hid (Calls Tryz.prog 13 #[.slice go gk gc] wW fun y w2 => y = .returned (.int .i64 (0 : Nat)) ∧ w2 = wW) := hLe
    have HW : Hid (Below w.heap.size w wW ∧ CB w.heap.size q n (.slice ao m ca) wW) := ⟨below_two' HM.out.1 hbW, HM.out.2.keep hbW⟩
    clear hbW c0 c1 c2 hLe
    obtain ⟨c0, c1, c2⟩ := HW.out.2
    go_wp2_with fail
    refine HLe.out.mono ?_
    rintro x wL ⟨rfl, hw⟩
    have hw := hw.symm
    subst hw
    go_wp2_with fail
    refine (PW.out wW).mono ?_
    rintro x wA ⟨rfl, hbA⟩
    have HAx : Hid (Below w.heap.size w wA ∧ CB w.heap.size q n (.slice ao m ca) wA) := ⟨below_two' HW.out.1 hbA, HW.out.2.keep hbA⟩
    clear hbA c0 c1 c2
    obtain ⟨c0, c1, c2⟩ := HAx.out.2
    go_wp2_with fail
    refine (BL.out wA).mono ?_
    rintro x wB ⟨rfl, hbB⟩
    have HB : Hid (Below w.heap.size w wB) := below_two' HAx.out.1 hbB
    clear hbB c0 c1 c2
    go_wp2
    go_ret
    exact ⟨by first | rfl | (rw [htb]; simp) | simp [htb], HB.out⟩
set_option maxHeartbeats 8000000 in
set_option maxRecDepth 100000 in
theorem gbw_Av2 (q n wt r : Int) {ao : Option Addr} {m ca : Nat} {w : World} (hwt : wt < 1 ∨ n < wt) (hr1 : ¬ r < 0) (hr2 : ¬ r > n) (hr3 : r ≤ 1000) {tb : Bool} {k d nk al bl r2 : Nat} (hnk : n - (k : Int) = (nk : Int)) (hnk2 : nk ≤ 1000) (hr2i : (2 : Int) * r = (r2 : Int)) (hr2b : r2 ≤ 10000) (hd : r2 < d) (htb : ((bl : Int) == (al : Int)) = tb)
    (pHV : ∀ wx, Below w.heap.size w wx → Calls Tryz.prog 5 #[.slice ao m ca] wx fun r w' => r = .returned (.bool false) ∧ w' = wx)
    (pWM : ∀ wx, Below w.heap.size w wx → Calls Tryz.prog 6 #[.agg #[.int .i64 q, .int .i64 n, .slice ao m ca]] wx fun x w' => x = .returned (.int .i64 0) ∧ Below wx.heap.size wx w')
    (pGB : ∀ wx, Below w.heap.size w wx → Calls Tryz.prog 8 #[.agg #[.int .i64 q, .int .i64 n, .slice ao m ca], .int .i64 wt] wx fun x w' => x = .returned (.tuple #[.slice none 0 0, .int .i64 10]) ∧ Below wx.heap.size wx w')
    (pCM : ∀ wx, Calls Tryz.prog 10 #[.int .i64 q, .int .i64 n] wx fun x w' => x = .returned (.int .i64 0) ∧ Below wx.heap.size wx w')
    (pPF : ∀ wx, Below w.heap.size w wx → Calls Tryz.prog 11 #[.agg #[.int .i64 q, .int .i64 n, .slice ao m ca], .int .i64 r] wx fun x w' => x = .returned (.tuple #[.bool tb, .int .i64 0]) ∧ Below wx.heap.size wx w')
    (pMD : ∀ wx, Below w.heap.size w wx → Calls Tryz.prog 12 #[.agg #[.int .i64 q, .int .i64 n, .slice ao m ca]] wx fun x w' => ∃ ro rc, x = .returned (.agg #[.int .i64 q, .int .i64 n, .slice ro k rc]) ∧ Below wx.heap.size wx w')
    (pWD : ∀ wx, Below w.heap.size w wx → Calls Tryz.prog 14 #[.agg #[.int .i64 q, .int .i64 n, .slice ao m ca]] wx fun x w' => ∃ go gk gc, x = .returned (.slice go gk gc) ∧ Below wx.heap.size wx w' ∧ Calls Tryz.prog 13 #[.slice go gk gc] w' fun y w2 => y = .returned (.int .i64 (d : Nat)) ∧ w2 = w')
    (pPW : ∀ wx, Calls Tryz.prog 15 #[.int .i64 q, .int .i64 (nk : Nat)] wx fun x w' => x = .returned (.int .i64 (al : Nat)) ∧ Below wx.heap.size wx w')
    (pBL : ∀ wx, Calls Tryz.prog 16 #[.int .i64 q, .int .i64 n, .int .i64 r] wx fun x w' => x = .returned (.int .i64 (bl : Nat)) ∧ Below wx.heap.size wx w')
    : Calls Tryz.prog 3 #[.agg #[.int .i64 q, .int .i64 n, .slice ao m ca], .int .i64 wt, .int .i64 r] w fun x w' => x = .returned (.bool true) ∧ Below w.heap.size w w' := by
  have HV : Hid (∀ wx, Below w.heap.size w wx → Calls Tryz.prog 5 #[.slice ao m ca] wx fun r w' => r = .returned (.bool false) ∧ w' = wx) := pHV
  have WM : Hid (∀ wx, Below w.heap.size w wx → Calls Tryz.prog 6 #[.agg #[.int .i64 q, .int .i64 n, .slice ao m ca]] wx fun x w' => x = .returned (.int .i64 0) ∧ Below wx.heap.size wx w') := pWM
  have GB : Hid (∀ wx, Below w.heap.size w wx → Calls Tryz.prog 8 #[.agg #[.int .i64 q, .int .i64 n, .slice ao m ca], .int .i64 wt] wx fun x w' => x = .returned (.tuple #[.slice none 0 0, .int .i64 10]) ∧ Below wx.heap.size wx w') := pGB
  have CM : Hid (∀ wx, Calls Tryz.prog 10 #[.int .i64 q, .int .i64 n] wx fun x w' => x = .returned (.int .i64 0) ∧ Below wx.heap.size wx w') := pCM
  have PF : Hid (∀ wx, Below w.heap.size w wx → Calls Tryz.prog 11 #[.agg #[.int .i64 q, .int .i64 n, .slice ao m ca], .int .i64 r] wx fun x w' => x = .returned (.tuple #[.bool tb, .int .i64 0]) ∧ Below wx.heap.size wx w') := pPF
  have MD : Hid (∀ wx, Below w.heap.size w wx → Calls Tryz.prog 12 #[.agg #[.int .i64 q, .int .i64 n, .slice ao m ca]] wx fun x w' => ∃ ro rc, x = .returned (.agg #[.int .i64 q, .int .i64 n, .slice ro k rc]) ∧ Below wx.heap.size wx w') := pMD
  have WD : Hid (∀ wx, Below w.heap.size w wx → Calls Tryz.prog 14 #[.agg #[.int .i64 q, .int .i64 n, .slice ao m ca]] wx fun x w' => ∃ go gk gc, x = .returned (.slice go gk gc) ∧ Below wx.heap.size wx w' ∧ Calls Tryz.prog 13 #[.slice go gk gc] w' fun y w2 => y = .returned (.int .i64 (d : Nat)) ∧ w2 = w') := pWD
  have PW : Hid (∀ wx, Calls Tryz.prog 15 #[.int .i64 q, .int .i64 (nk : Nat)] wx fun x w' => x = .returned (.int .i64 (al : Nat)) ∧ Below wx.heap.size wx w') := pPW
  have BL : Hid (∀ wx, Calls Tryz.prog 16 #[.int .i64 q, .int .i64 n, .int .i64 r] wx fun x w' => x = .returned (.int .i64 (bl : Nat)) ∧ Below wx.heap.size wx w') := pBL
  clear pHV pWM pGB pCM pPF pMD pWD pPW pBL
  obtain ⟨w0, hw0⟩ : ∃ w0, w0 = w.alloc (.cells #[.int .i64 q, .int .i64 n, .slice ao m ca] 24) := ⟨_, rfl⟩
  have H0 : Hid (Below w.heap.size w w0 ∧ CB w.heap.size q n (.slice ao m ca) w0 ∧ w0.heap.size = w.heap.size + 1) := by
    have := box_at q n (.slice ao m ca) w
    rw [← hw0] at this; exact this
  obtain ⟨q0, q1, q2⟩ := H0.out.2.1
  rw [hw0] at q0 q1 q2
  have wnk : IntKind.i64.wrap (nk : Int) = (nk : Int) := wrap_to (by omega) (by omega)
  have wr2 : IntKind.i64.wrap (r2 : Int) = (r2 : Int) := wrap_to (by omega) (by omega)
  have zd : ((d : Int) == 0) = false := beq_eq_false_iff_ne.2 (by omega)
  have zd2 : (d : Int) > (r2 : Int) := by omega
  have HNk : Hid (∀ e : Int, e = (nk : Int) → e = (nk : Int)) := fun _ h => h
  go_enter Tryz.func3, Tryz.ntmps3
  go_wp2_with fail
  rw [← hw0]
  clear q0 q1 q2 hw0
  refine (HV.out w0 H0.out.1).mono ?_
  rintro x wH ⟨rfl, hw⟩
  have hw := hw.symm
  subst hw
  obtain ⟨c0, c1, c2⟩ := H0.out.2.1
  go_wp2_with fail
  refine (WM.out w0 H0.out.1).mono ?_
  rintro x w1 ⟨rfl, hb1⟩
  have H1 : Hid (Below w.heap.size w w1 ∧ CB w.heap.size q n (.slice ao m ca) w1) := ⟨below_two' H0.out.1 hb1, H0.out.2.1.keep hb1⟩
  clear hb1 c0 c1 c2
  obtain ⟨c0, c1, c2⟩ := H1.out.2
  by_cases hw1 : wt < 1
  · go_wp2_with fail
    refine (GB.out w1 H1.out.1).mono ?_
    rintro x w2 ⟨rfl, hb2⟩
    have H2 : Hid (Below w.heap.size w w2 ∧ CB w.heap.size q n (.slice ao m ca) w2) := ⟨below_two' H1.out.1 hb2, H1.out.2.keep hb2⟩
    clear hb2 c0 c1 c2
    obtain ⟨c0, c1, c2⟩ := H2.out.2
    go_wp2_with fail
    refine (lists_err2 10 (by omega) none 0 _ w2).mono ?_
    rintro x w3 ⟨rfl, hw⟩
    have hw := hw.symm
    subst hw
    go_wp2_with fail
    refine (CM.out w2).mono ?_
    rintro x wC ⟨rfl, hbC⟩
    have HC : Hid (Below w.heap.size w wC ∧ CB w.heap.size q n (.slice ao m ca) wC) := ⟨below_two' H2.out.1 hbC, H2.out.2.keep hbC⟩
    clear hbC c0 c1 c2
    obtain ⟨c0, c1, c2⟩ := HC.out.2
    go_wp2_with fail
    refine (PF.out wC HC.out.1).mono ?_
    rintro x wP ⟨rfl, hbP⟩
    have HP : Hid (Below w.heap.size w wP ∧ CB w.heap.size q n (.slice ao m ca) wP) := ⟨below_two' HC.out.1 hbP, HC.out.2.keep hbP⟩
    clear hbP c0 c1 c2
    obtain ⟨c0, c1, c2⟩ := HP.out.2
    go_wp2_with fail
    refine (MD.out wP HP.out.1).mono ?_
    rintro x wM ⟨ro, rc, rfl, hbM⟩
    have HM : Hid (Below w.heap.size w wM ∧ CB w.heap.size q n (.slice ao m ca) wM) := ⟨below_two' HP.out.1 hbM, HP.out.2.keep hbM⟩
    clear hbM c0 c1 c2
    obtain ⟨c0, c1, c2⟩ := HM.out.2
    go_wp2_with fail
    refine (WD.out wM HM.out.1).mono ?_
    rintro x wW ⟨go, gk, gc, rfl, hbW, hLe⟩
    have HLe : Hid (Calls Tryz.prog 13 #[.slice go gk gc] wW fun y w2 => y = .returned (.int .i64 (d : Nat)) ∧ w2 = wW) := hLe
    have HW : Hid (Below w.heap.size w wW ∧ CB w.heap.size q n (.slice ao m ca) wW) := ⟨below_two' HM.out.1 hbW, HM.out.2.keep hbW⟩
    clear hbW c0 c1 c2 hLe
    obtain ⟨c0, c1, c2⟩ := HW.out.2
    go_wp2_with fail
    refine HLe.out.mono ?_
    rintro x wL ⟨rfl, hw⟩
    have hw := hw.symm
    subst hw
    go_wp2_with fail
    refine (PW.out wW).mono ?_
    rintro x wA ⟨rfl, hbA⟩
    have HAx : Hid (Below w.heap.size w wA ∧ CB w.heap.size q n (.slice ao m ca) wA) := ⟨below_two' HW.out.1 hbA, HW.out.2.keep hbA⟩
    clear hbA c0 c1 c2
    obtain ⟨c0, c1, c2⟩ := HAx.out.2
    go_wp2_with fail
    refine (BL.out wA).mono ?_
    rintro x wB ⟨rfl, hbB⟩
    have HB : Hid (Below w.heap.size w wB) := below_two' HAx.out.1 hbB
    clear hbB c0 c1 c2
    go_wp2
    go_ret
    exact ⟨by first | rfl | (rw [htb]; simp) | simp [htb], HB.out⟩
  · have hw2 : wt > n := hwt.elim (fun h => absurd h hw1) id
    go_wp2_with fail
    refine (GB.out w1 H1.out.1).mono ?_
    rintro x w2 ⟨rfl, hb2⟩
    have H2 : Hid (Below w.heap.size w w2 ∧ CB w.heap.size q n (.slice ao m ca) w2) := ⟨below_two' H1.out.1 hb2, H1.out.2.keep hb2⟩
    clear hb2 c0 c1 c2
    obtain ⟨c0, c1, c2⟩ := H2.out.2
    go_wp2_with fail
    refine (lists_err2 10 (by omega) none 0 _ w2).mono ?_
    rintro x w3 ⟨rfl, hw⟩
    have hw := hw.symm
    subst hw
    go_wp2_with fail
    refine (CM.out w2).mono ?_
    rintro x wC ⟨rfl, hbC⟩
    have HC : Hid (Below w.heap.size w wC ∧ CB w.heap.size q n (.slice ao m ca) wC) := ⟨below_two' H2.out.1 hbC, H2.out.2.keep hbC⟩
    clear hbC c0 c1 c2
    obtain ⟨c0, c1, c2⟩ := HC.out.2
    go_wp2_with fail
    refine (PF.out wC HC.out.1).mono ?_
    rintro x wP ⟨rfl, hbP⟩
    have HP : Hid (Below w.heap.size w wP ∧ CB w.heap.size q n (.slice ao m ca) wP) := ⟨below_two' HC.out.1 hbP, HC.out.2.keep hbP⟩
    clear hbP c0 c1 c2
    obtain ⟨c0, c1, c2⟩ := HP.out.2
    go_wp2_with fail
    refine (MD.out wP HP.out.1).mono ?_
    rintro x wM ⟨ro, rc, rfl, hbM⟩
    have HM : Hid (Below w.heap.size w wM ∧ CB w.heap.size q n (.slice ao m ca) wM) := ⟨below_two' HP.out.1 hbM, HP.out.2.keep hbM⟩
    clear hbM c0 c1 c2
    obtain ⟨c0, c1, c2⟩ := HM.out.2
    go_wp2_with fail
    refine (WD.out wM HM.out.1).mono ?_
    rintro x wW ⟨go, gk, gc, rfl, hbW, hLe⟩
    have HLe : Hid (Calls Tryz.prog 13 #[.slice go gk gc] wW fun y w2 => y = .returned (.int .i64 (d : Nat)) ∧ w2 = wW) := hLe
    have HW : Hid (Below w.heap.size w wW ∧ CB w.heap.size q n (.slice ao m ca) wW) := ⟨below_two' HM.out.1 hbW, HM.out.2.keep hbW⟩
    clear hbW c0 c1 c2 hLe
    obtain ⟨c0, c1, c2⟩ := HW.out.2
    go_wp2_with fail
    refine HLe.out.mono ?_
    rintro x wL ⟨rfl, hw⟩
    have hw := hw.symm
    subst hw
    go_wp2_with fail
    refine (PW.out wW).mono ?_
    rintro x wA ⟨rfl, hbA⟩
    have HAx : Hid (Below w.heap.size w wA ∧ CB w.heap.size q n (.slice ao m ca) wA) := ⟨below_two' HW.out.1 hbA, HW.out.2.keep hbA⟩
    clear hbA c0 c1 c2
    obtain ⟨c0, c1, c2⟩ := HAx.out.2
    go_wp2_with fail
    refine (BL.out wA).mono ?_
    rintro x wB ⟨rfl, hbB⟩
    have HB : Hid (Below w.heap.size w wB) := below_two' HAx.out.1 hbB
    clear hbB c0 c1 c2
    go_wp2
    go_ret
    exact ⟨by first | rfl | (rw [htb]; simp) | simp [htb], HB.out⟩
set_option maxHeartbeats 8000000 in
set_option maxRecDepth 100000 in
theorem gbw_Av3 (q n wt r : Int) {ao : Option Addr} {m ca : Nat} {w : World} (hwt : wt < 1 ∨ n < wt) (hr1 : ¬ r < 0) (hr2 : ¬ r > n) (hr3 : r ≤ 1000) {tb : Bool} {k d nk al bl r2 : Nat} (hnk : n - (k : Int) = (nk : Int)) (hnk2 : nk ≤ 1000) (hr2i : (2 : Int) * r = (r2 : Int)) (hr2b : r2 ≤ 10000) (hd0 : d ≠ 0) (hd : ¬ r2 < d) (htb : tb = false)
    (pHV : ∀ wx, Below w.heap.size w wx → Calls Tryz.prog 5 #[.slice ao m ca] wx fun r w' => r = .returned (.bool false) ∧ w' = wx)
    (pWM : ∀ wx, Below w.heap.size w wx → Calls Tryz.prog 6 #[.agg #[.int .i64 q, .int .i64 n, .slice ao m ca]] wx fun x w' => x = .returned (.int .i64 0) ∧ Below wx.heap.size wx w')
    (pGB : ∀ wx, Below w.heap.size w wx → Calls Tryz.prog 8 #[.agg #[.int .i64 q, .int .i64 n, .slice ao m ca], .int .i64 wt] wx fun x w' => x = .returned (.tuple #[.slice none 0 0, .int .i64 10]) ∧ Below wx.heap.size wx w')
    (pCM : ∀ wx, Calls Tryz.prog 10 #[.int .i64 q, .int .i64 n] wx fun x w' => x = .returned (.int .i64 0) ∧ Below wx.heap.size wx w')
    (pPF : ∀ wx, Below w.heap.size w wx → Calls Tryz.prog 11 #[.agg #[.int .i64 q, .int .i64 n, .slice ao m ca], .int .i64 r] wx fun x w' => x = .returned (.tuple #[.bool tb, .int .i64 0]) ∧ Below wx.heap.size wx w')
    (pMD : ∀ wx, Below w.heap.size w wx → Calls Tryz.prog 12 #[.agg #[.int .i64 q, .int .i64 n, .slice ao m ca]] wx fun x w' => ∃ ro rc, x = .returned (.agg #[.int .i64 q, .int .i64 n, .slice ro k rc]) ∧ Below wx.heap.size wx w')
    (pWD : ∀ wx, Below w.heap.size w wx → Calls Tryz.prog 14 #[.agg #[.int .i64 q, .int .i64 n, .slice ao m ca]] wx fun x w' => ∃ go gk gc, x = .returned (.slice go gk gc) ∧ Below wx.heap.size wx w' ∧ Calls Tryz.prog 13 #[.slice go gk gc] w' fun y w2 => y = .returned (.int .i64 (d : Nat)) ∧ w2 = w')
    (pPW : ∀ wx, Calls Tryz.prog 15 #[.int .i64 q, .int .i64 (nk : Nat)] wx fun x w' => x = .returned (.int .i64 (al : Nat)) ∧ Below wx.heap.size wx w')
    (pBL : ∀ wx, Calls Tryz.prog 16 #[.int .i64 q, .int .i64 n, .int .i64 r] wx fun x w' => x = .returned (.int .i64 (bl : Nat)) ∧ Below wx.heap.size wx w')
    : Calls Tryz.prog 3 #[.agg #[.int .i64 q, .int .i64 n, .slice ao m ca], .int .i64 wt, .int .i64 r] w fun x w' => x = .returned (.bool true) ∧ Below w.heap.size w w' := by
  have HV : Hid (∀ wx, Below w.heap.size w wx → Calls Tryz.prog 5 #[.slice ao m ca] wx fun r w' => r = .returned (.bool false) ∧ w' = wx) := pHV
  have WM : Hid (∀ wx, Below w.heap.size w wx → Calls Tryz.prog 6 #[.agg #[.int .i64 q, .int .i64 n, .slice ao m ca]] wx fun x w' => x = .returned (.int .i64 0) ∧ Below wx.heap.size wx w') := pWM
  have GB : Hid (∀ wx, Below w.heap.size w wx → Calls Tryz.prog 8 #[.agg #[.int .i64 q, .int .i64 n, .slice ao m ca], .int .i64 wt] wx fun x w' => x = .returned (.tuple #[.slice none 0 0, .int .i64 10]) ∧ Below wx.heap.size wx w') := pGB
  have CM : Hid (∀ wx, Calls Tryz.prog 10 #[.int .i64 q, .int .i64 n] wx fun x w' => x = .returned (.int .i64 0) ∧ Below wx.heap.size wx w') := pCM
  have PF : Hid (∀ wx, Below w.heap.size w wx → Calls Tryz.prog 11 #[.agg #[.int .i64 q, .int .i64 n, .slice ao m ca], .int .i64 r] wx fun x w' => x = .returned (.tuple #[.bool tb, .int .i64 0]) ∧ Below wx.heap.size wx w') := pPF
  have MD : Hid (∀ wx, Below w.heap.size w wx → Calls Tryz.prog 12 #[.agg #[.int .i64 q, .int .i64 n, .slice ao m ca]] wx fun x w' => ∃ ro rc, x = .returned (.agg #[.int .i64 q, .int .i64 n, .slice ro k rc]) ∧ Below wx.heap.size wx w') := pMD
  have WD : Hid (∀ wx, Below w.heap.size w wx → Calls Tryz.prog 14 #[.agg #[.int .i64 q, .int .i64 n, .slice ao m ca]] wx fun x w' => ∃ go gk gc, x = .returned (.slice go gk gc) ∧ Below wx.heap.size wx w' ∧ Calls Tryz.prog 13 #[.slice go gk gc] w' fun y w2 => y = .returned (.int .i64 (d : Nat)) ∧ w2 = w') := pWD
  have PW : Hid (∀ wx, Calls Tryz.prog 15 #[.int .i64 q, .int .i64 (nk : Nat)] wx fun x w' => x = .returned (.int .i64 (al : Nat)) ∧ Below wx.heap.size wx w') := pPW
  have BL : Hid (∀ wx, Calls Tryz.prog 16 #[.int .i64 q, .int .i64 n, .int .i64 r] wx fun x w' => x = .returned (.int .i64 (bl : Nat)) ∧ Below wx.heap.size wx w') := pBL
  clear pHV pWM pGB pCM pPF pMD pWD pPW pBL
  obtain ⟨w0, hw0⟩ : ∃ w0, w0 = w.alloc (.cells #[.int .i64 q, .int .i64 n, .slice ao m ca] 24) := ⟨_, rfl⟩
  have H0 : Hid (Below w.heap.size w w0 ∧ CB w.heap.size q n (.slice ao m ca) w0 ∧ w0.heap.size = w.heap.size + 1) := by
    have := box_at q n (.slice ao m ca) w
    rw [← hw0] at this; exact this
  obtain ⟨q0, q1, q2⟩ := H0.out.2.1
  rw [hw0] at q0 q1 q2
  have wnk : IntKind.i64.wrap (nk : Int) = (nk : Int) := wrap_to (by omega) (by omega)
  have wr2 : IntKind.i64.wrap (r2 : Int) = (r2 : Int) := wrap_to (by omega) (by omega)
  have zd : ((d : Int) == 0) = false := beq_eq_false_iff_ne.2 (by omega)
  have zd2 : ¬ (d : Int) > (r2 : Int) := by omega
  subst htb
  have HNk : Hid (∀ e : Int, e = (nk : Int) → e = (nk : Int)) := fun _ h => h
  go_enter Tryz.func3, Tryz.ntmps3
  go_wp2_with fail
  rw [← hw0]
  clear q0 q1 q2 hw0
  refine (HV.out w0 H0.out.1).mono ?_
  rintro x wH ⟨rfl, hw⟩
  have hw := hw.symm
  subst hw
  obtain ⟨c0, c1, c2⟩ := H0.out.2.1
  go_wp2_with fail
  refine (WM.out w0 H0.out.1).mono ?_
  rintro x w1 ⟨rfl, hb1⟩
  have H1 : Hid (Below w.heap.size w w1 ∧ CB w.heap.size q n (.slice ao m ca) w1) := ⟨below_two' H0.out.1 hb1, H0.out.2.1.keep hb1⟩
  clear hb1 c0 c1 c2
  obtain ⟨c0, c1, c2⟩ := H1.out.2
  by_cases hw1 : wt < 1
  · go_wp2_with fail
    refine (GB.out w1 H1.out.1).mono ?_
    rintro x w2 ⟨rfl, hb2⟩
    have H2 : Hid (Below w.heap.size w w2 ∧ CB w.heap.size q n (.slice ao m ca) w2) := ⟨below_two' H1.out.1 hb2, H1.out.2.keep hb2⟩
    clear hb2 c0 c1 c2
    obtain ⟨c0, c1, c2⟩ := H2.out.2
    go_wp2_with fail
    refine (lists_err2 10 (by omega) none 0 _ w2).mono ?_
    rintro x w3 ⟨rfl, hw⟩
    have hw := hw.symm
    subst hw
    go_wp2_with fail
    refine (CM.out w2).mono ?_
    rintro x wC ⟨rfl, hbC⟩
    have HC : Hid (Below w.heap.size w wC ∧ CB w.heap.size q n (.slice ao m ca) wC) := ⟨below_two' H2.out.1 hbC, H2.out.2.keep hbC⟩
    clear hbC c0 c1 c2
    obtain ⟨c0, c1, c2⟩ := HC.out.2
    go_wp2_with fail
    refine (PF.out wC HC.out.1).mono ?_
    rintro x wP ⟨rfl, hbP⟩
    have HP : Hid (Below w.heap.size w wP ∧ CB w.heap.size q n (.slice ao m ca) wP) := ⟨below_two' HC.out.1 hbP, HC.out.2.keep hbP⟩
    clear hbP c0 c1 c2
    obtain ⟨c0, c1, c2⟩ := HP.out.2
    go_wp2_with fail
    refine (MD.out wP HP.out.1).mono ?_
    rintro x wM ⟨ro, rc, rfl, hbM⟩
    have HM : Hid (Below w.heap.size w wM ∧ CB w.heap.size q n (.slice ao m ca) wM) := ⟨below_two' HP.out.1 hbM, HP.out.2.keep hbM⟩
    clear hbM c0 c1 c2
    obtain ⟨c0, c1, c2⟩ := HM.out.2
    go_wp2_with fail
    refine (WD.out wM HM.out.1).mono ?_
    rintro x wW ⟨go, gk, gc, rfl, hbW, hLe⟩
    have HLe : Hid (Calls Tryz.prog 13 #[.slice go gk gc] wW fun y w2 => y = .returned (.int .i64 (d : Nat)) ∧ w2 = wW) := hLe
    have HW : Hid (Below w.heap.size w wW ∧ CB w.heap.size q n (.slice ao m ca) wW) := ⟨below_two' HM.out.1 hbW, HM.out.2.keep hbW⟩
    clear hbW c0 c1 c2 hLe
    obtain ⟨c0, c1, c2⟩ := HW.out.2
    go_wp2_with fail
    refine HLe.out.mono ?_
    rintro x wL ⟨rfl, hw⟩
    have hw := hw.symm
    subst hw
    go_wp2_with fail
    refine (PW.out wW).mono ?_
    rintro x wA ⟨rfl, hbA⟩
    have HAx : Hid (Below w.heap.size w wA ∧ CB w.heap.size q n (.slice ao m ca) wA) := ⟨below_two' HW.out.1 hbA, HW.out.2.keep hbA⟩
    clear hbA c0 c1 c2
    obtain ⟨c0, c1, c2⟩ := HAx.out.2
    go_wp2
    go_ret
    exact ⟨by first | rfl | simp, HAx.out.1⟩
  · have hw2 : wt > n := hwt.elim (fun h => absurd h hw1) id
    go_wp2_with fail
    refine (GB.out w1 H1.out.1).mono ?_
    rintro x w2 ⟨rfl, hb2⟩
    have H2 : Hid (Below w.heap.size w w2 ∧ CB w.heap.size q n (.slice ao m ca) w2) := ⟨below_two' H1.out.1 hb2, H1.out.2.keep hb2⟩
    clear hb2 c0 c1 c2
    obtain ⟨c0, c1, c2⟩ := H2.out.2
    go_wp2_with fail
    refine (lists_err2 10 (by omega) none 0 _ w2).mono ?_
    rintro x w3 ⟨rfl, hw⟩
    have hw := hw.symm
    subst hw
    go_wp2_with fail
    refine (CM.out w2).mono ?_
    rintro x wC ⟨rfl, hbC⟩
    have HC : Hid (Below w.heap.size w wC ∧ CB w.heap.size q n (.slice ao m ca) wC) := ⟨below_two' H2.out.1 hbC, H2.out.2.keep hbC⟩
    clear hbC c0 c1 c2
    obtain ⟨c0, c1, c2⟩ := HC.out.2
    go_wp2_with fail
    refine (PF.out wC HC.out.1).mono ?_
    rintro x wP ⟨rfl, hbP⟩
    have HP : Hid (Below w.heap.size w wP ∧ CB w.heap.size q n (.slice ao m ca) wP) := ⟨below_two' HC.out.1 hbP, HC.out.2.keep hbP⟩
    clear hbP c0 c1 c2
    obtain ⟨c0, c1, c2⟩ := HP.out.2
    go_wp2_with fail
    refine (MD.out wP HP.out.1).mono ?_
    rintro x wM ⟨ro, rc, rfl, hbM⟩
    have HM : Hid (Below w.heap.size w wM ∧ CB w.heap.size q n (.slice ao m ca) wM) := ⟨below_two' HP.out.1 hbM, HP.out.2.keep hbM⟩
    clear hbM c0 c1 c2
    obtain ⟨c0, c1, c2⟩ := HM.out.2
    go_wp2_with fail
    refine (WD.out wM HM.out.1).mono ?_
    rintro x wW ⟨go, gk, gc, rfl, hbW, hLe⟩
    have HLe : Hid (Calls Tryz.prog 13 #[.slice go gk gc] wW fun y w2 => y = .returned (.int .i64 (d : Nat)) ∧ w2 = wW) := hLe
    have HW : Hid (Below w.heap.size w wW ∧ CB w.heap.size q n (.slice ao m ca) wW) := ⟨below_two' HM.out.1 hbW, HM.out.2.keep hbW⟩
    clear hbW c0 c1 c2 hLe
    obtain ⟨c0, c1, c2⟩ := HW.out.2
    go_wp2_with fail
    refine HLe.out.mono ?_
    rintro x wL ⟨rfl, hw⟩
    have hw := hw.symm
    subst hw
    go_wp2_with fail
    refine (PW.out wW).mono ?_
    rintro x wA ⟨rfl, hbA⟩
    have HAx : Hid (Below w.heap.size w wA ∧ CB w.heap.size q n (.slice ao m ca) wA) := ⟨below_two' HW.out.1 hbA, HW.out.2.keep hbA⟩
    clear hbA c0 c1 c2
    obtain ⟨c0, c1, c2⟩ := HAx.out.2
    go_wp2
    go_ret
    exact ⟨by first | rfl | simp, HAx.out.1⟩
set_option maxHeartbeats 8000000 in
set_option maxRecDepth 100000 in
theorem gbw_By (q n wt r : Int) {ao : Option Addr} {m ca : Nat} {w : World} (hw1 : ¬ wt < 1) (hw2 : ¬ wt > n) {Q : Value → World → Prop} (E2 : Int) (hE2 : E2 ≠ 0)
    (pHV : ∀ wx, Below w.heap.size w wx → Calls Tryz.prog 5 #[.slice ao m ca] wx fun r w' => r = .returned (.bool false) ∧ w' = wx)
    (pWM : ∀ wx, Below w.heap.size w wx → Calls Tryz.prog 6 #[.agg #[.int .i64 q, .int .i64 n, .slice ao m ca]] wx fun x w' => x = .returned (.int .i64 0) ∧ Below wx.heap.size wx w')
    (pRB : ∀ wx, Below w.heap.size w wx → Calls Tryz.prog 7 #[.agg #[.int .i64 q, .int .i64 n, .slice ao m ca], .int .i64 wt] wx fun x w' => ∃ v, x = .returned v ∧ Q v w' ∧ Below wx.heap.size wx w')
    (pGB : ∀ wx, Below w.heap.size w wx → Calls Tryz.prog 8 #[.agg #[.int .i64 q, .int .i64 n, .slice ao m ca], .int .i64 wt] wx fun x w' => ∃ v, x = .returned (.tuple #[v, .int .i64 0]) ∧ Q v w' ∧ Below wx.heap.size wx w')
    (pQB : ∀ v wx wy, Q v wx → Below wx.heap.size wx wy → Q v wy)
    (pLS : ∀ v v' wx, Q v wx → Q v' wx → Calls Tryz.prog 9 #[v, .int .i64 0, v', .int .i64 0] wx fun r w' => r = .returned (.bool true) ∧ ∃ d, w' = wx.drewN d)
    (pCM : ∀ wx, Calls Tryz.prog 10 #[.int .i64 q, .int .i64 n] wx fun x w' => x = .returned (.int .i64 E2) ∧ Below wx.heap.size wx w')
    (pPF : ∀ wx, Below w.heap.size w wx → Calls Tryz.prog 11 #[.agg #[.int .i64 q, .int .i64 n, .slice ao m ca], .int .i64 r] wx fun x w' => x = .returned (.tuple #[.bool false, .int .i64 E2]) ∧ Below wx.heap.size wx w')
    : Calls Tryz.prog 3 #[.agg #[.int .i64 q, .int .i64 n, .slice ao m ca], .int .i64 wt, .int .i64 r] w fun x w' => x = .returned (.bool true) ∧ Below w.heap.size w w' := by
  have HV : Hid (∀ wx, Below w.heap.size w wx → Calls Tryz.prog 5 #[.slice ao m ca] wx fun r w' => r = .returned (.bool false) ∧ w' = wx) := pHV
  have WM : Hid (∀ wx, Below w.heap.size w wx → Calls Tryz.prog 6 #[.agg #[.int .i64 q, .int .i64 n, .slice ao m ca]] wx fun x w' => x = .returned (.int .i64 0) ∧ Below wx.heap.size wx w') := pWM
  have RB : Hid (∀ wx, Below w.heap.size w wx → Calls Tryz.prog 7 #[.agg #[.int .i64 q, .int .i64 n, .slice ao m ca], .int .i64 wt] wx fun x w' => ∃ v, x = .returned v ∧ Q v w' ∧ Below wx.heap.size wx w') := pRB
  have GB : Hid (∀ wx, Below w.heap.size w wx → Calls Tryz.prog 8 #[.agg #[.int .i64 q, .int .i64 n, .slice ao m ca], .int .i64 wt] wx fun x w' => ∃ v, x = .returned (.tuple #[v, .int .i64 0]) ∧ Q v w' ∧ Below wx.heap.size wx w') := pGB
  have QB : Hid (∀ v wx wy, Q v wx → Below wx.heap.size wx wy → Q v wy) := pQB
  have LS : Hid (∀ v v' wx, Q v wx → Q v' wx → Calls Tryz.prog 9 #[v, .int .i64 0, v', .int .i64 0] wx fun r w' => r = .returned (.bool true) ∧ ∃ d, w' = wx.drewN d) := pLS
  have CM : Hid (∀ wx, Calls Tryz.prog 10 #[.int .i64 q, .int .i64 n] wx fun x w' => x = .returned (.int .i64 E2) ∧ Below wx.heap.size wx w') := pCM
  have PF : Hid (∀ wx, Below w.heap.size w wx → Calls Tryz.prog 11 #[.agg #[.int .i64 q, .int .i64 n, .slice ao m ca], .int .i64 r] wx fun x w' => x = .returned (.tuple #[.bool false, .int .i64 E2]) ∧ Below wx.heap.size wx w') := pPF
  clear pHV pWM pRB pGB pQB pLS pCM pPF
  obtain ⟨w0, hw0⟩ : ∃ w0, w0 = w.alloc (.cells #[.int .i64 q, .int .i64 n, .slice ao m ca] 24) := ⟨_, rfl⟩
  have H0 : Hid (Below w.heap.size w w0 ∧ CB w.heap.size q n (.slice ao m ca) w0 ∧ w0.heap.size = w.heap.size + 1) := by
    have := box_at q n (.slice ao m ca) w
    rw [← hw0] at this; exact this
  obtain ⟨q0, q1, q2⟩ := H0.out.2.1
  rw [hw0] at q0 q1 q2
  have hy : (E2 == 0) = false := beq_eq_false_iff_ne.2 hE2
  have hy2 : (E2 != 0) = true := bne_iff_ne.2 hE2
  go_enter Tryz.func3, Tryz.ntmps3
  go_wp2_with fail
  rw [← hw0]
  clear q0 q1 q2 hw0
  refine (HV.out w0 H0.out.1).mono ?_
  rintro x wH ⟨rfl, hw⟩
  have hw := hw.symm
  subst hw
  obtain ⟨c0, c1, c2⟩ := H0.out.2.1
  go_wp2_with fail
  refine (WM.out w0 H0.out.1).mono ?_
  rintro x w1 ⟨rfl, hb1⟩
  have H1 : Hid (Below w.heap.size w w1 ∧ CB w.heap.size q n (.slice ao m ca) w1) := ⟨below_two' H0.out.1 hb1, H0.out.2.1.keep hb1⟩
  clear hb1 c0 c1 c2
  obtain ⟨c0, c1, c2⟩ := H1.out.2
  go_wp2_with fail
  refine (RB.out w1 H1.out.1).mono ?_
  rintro x w2 ⟨vr, rfl, hq2, hb2⟩
  have H2 : Hid (Below w.heap.size w w2 ∧ CB w.heap.size q n (.slice ao m ca) w2 ∧ Q vr w2) := ⟨below_two' H1.out.1 hb2, H1.out.2.keep hb2, hq2⟩
  clear hb2 c0 c1 c2 hq2
  obtain ⟨c0, c1, c2⟩ := H2.out.2.1
  go_wp2_with fail
  refine (GB.out w2 H2.out.1).mono ?_
  rintro x w3 ⟨vg, rfl, hq3, hb3⟩
  have HLs : Hid (Calls Tryz.prog 9 #[vg, .int .i64 0, vr, .int .i64 0] w3 fun r w' => r = .returned (.bool true) ∧ ∃ d, w' = w3.drewN d) := LS.out vg vr w3 hq3 (QB.out vr w2 w3 H2.out.2.2 hb3)
  have H3 : Hid (Below w.heap.size w w3 ∧ CB w.heap.size q n (.slice ao m ca) w3) := ⟨below_two' H2.out.1 hb3, H2.out.2.1.keep hb3⟩
  clear hb3 c0 c1 c2 hq3
  go_wp2_with fail
  refine HLs.out.mono ?_
  rintro x w4 ⟨rfl, dd, hw4⟩
  have hb4 : Below w3.heap.size w3 w4 := by rw [hw4]; exact below_drewN2 (Below.refl _ _) dd
  have H4 : Hid (Below w.heap.size w w4 ∧ CB w.heap.size q n (.slice ao m ca) w4) := ⟨below_two' H3.out.1 hb4, H3.out.2.keep hb4⟩
  clear hb4 hw4
  obtain ⟨c0, c1, c2⟩ := H4.out.2
  go_wp2_with fail
  refine (CM.out w4).mono ?_
  rintro x wC ⟨rfl, hbC⟩
  have HC : Hid (Below w.heap.size w wC ∧ CB w.heap.size q n (.slice ao m ca) wC) := ⟨below_two' H4.out.1 hbC, H4.out.2.keep hbC⟩
  clear hbC c0 c1 c2
  obtain ⟨c0, c1, c2⟩ := HC.out.2
  go_wp2_with fail
  refine (PF.out wC HC.out.1).mono ?_
  rintro x wP ⟨rfl, hbP⟩
  have HP : Hid (Below w.heap.size w wP ∧ CB w.heap.size q n (.slice ao m ca) wP) := ⟨below_two' HC.out.1 hbP, HC.out.2.keep hbP⟩
  clear hbP c0 c1 c2
  obtain ⟨c0, c1, c2⟩ := HP.out.2
  go_wp2
  go_ret
  exact ⟨by first | rfl | simp, HP.out.1⟩
set_option maxHeartbeats 8000000 in
set_option maxRecDepth 100000 in
theorem gbw_Bz (q n wt r : Int) {ao : Option Addr} {m ca : Nat} {w : World} (hw1 : ¬ wt < 1) (hw2 : ¬ wt > n) {Q : Value → World → Prop} (hr : r < 0 ∨ n < r)
    (pHV : ∀ wx, Below w.heap.size w wx → Calls Tryz.prog 5 #[.slice ao m ca] wx fun r w' => r = .returned (.bool false) ∧ w' = wx)
    (pWM : ∀ wx, Below w.heap.size w wx → Calls Tryz.prog 6 #[.agg #[.int .i64 q, .int .i64 n, .slice ao m ca]] wx fun x w' => x = .returned (.int .i64 0) ∧ Below wx.heap.size wx w')
    (pRB : ∀ wx, Below w.heap.size w wx → Calls Tryz.prog 7 #[.agg #[.int .i64 q, .int .i64 n, .slice ao m ca], .int .i64 wt] wx fun x w' => ∃ v, x = .returned v ∧ Q v w' ∧ Below wx.heap.size wx w')
    (pGB : ∀ wx, Below w.heap.size w wx → Calls Tryz.prog 8 #[.agg #[.int .i64 q, .int .i64 n, .slice ao m ca], .int .i64 wt] wx fun x w' => ∃ v, x = .returned (.tuple #[v, .int .i64 0]) ∧ Q v w' ∧ Below wx.heap.size wx w')
    (pQB : ∀ v wx wy, Q v wx → Below wx.heap.size wx wy → Q v wy)
    (pLS : ∀ v v' wx, Q v wx → Q v' wx → Calls Tryz.prog 9 #[v, .int .i64 0, v', .int .i64 0] wx fun r w' => r = .returned (.bool true) ∧ ∃ d, w' = wx.drewN d)
    (pCM : ∀ wx, Calls Tryz.prog 10 #[.int .i64 q, .int .i64 n] wx fun x w' => x = .returned (.int .i64 0) ∧ Below wx.heap.size wx w')
    (pPF : ∀ wx, Below w.heap.size w wx → Calls Tryz.prog 11 #[.agg #[.int .i64 q, .int .i64 n, .slice ao m ca], .int .i64 r] wx fun x w' => x = .returned (.tuple #[.bool false, .int .i64 10]) ∧ Below wx.heap.size wx w')
    : Calls Tryz.prog 3 #[.agg #[.int .i64 q, .int .i64 n, .slice ao m ca], .int .i64 wt, .int .i64 r] w fun x w' => x = .returned (.bool true) ∧ Below w.heap.size w w' := by
  have HV : Hid (∀ wx, Below w.heap.size w wx → Calls Tryz.prog 5 #[.slice ao m ca] wx fun r w' => r = .returned (.bool false) ∧ w' = wx) := pHV
  have WM : Hid (∀ wx, Below w.heap.size w wx → Calls Tryz.prog 6 #[.agg #[.int .i64 q, .int .i64 n, .slice ao m ca]] wx fun x w' => x = .returned (.int .i64 0) ∧ Below wx.heap.size wx w') := pWM
  have RB : Hid (∀ wx, Below w.heap.size w wx → Calls Tryz.prog 7 #[.agg #[.int .i64 q, .int .i64 n, .slice ao m ca], .int .i64 wt] wx fun x w' => ∃ v, x = .returned v ∧ Q v w' ∧ Below wx.heap.size wx w') := pRB
  have GB : Hid (∀ wx, Below w.heap.size w wx → Calls Tryz.prog 8 #[.agg #[.int .i64 q, .int .i64 n, .slice ao m ca], .int .i64 wt] wx fun x w' => ∃ v, x = .returned (.tuple #[v, .int .i64 0]) ∧ Q v w' ∧ Below wx.heap.size wx w') := pGB
  have QB : Hid (∀ v wx wy, Q v wx → Below wx.heap.size wx wy → Q v wy) := pQB
  have LS : Hid (∀ v v' wx, Q v wx → Q v' wx → Calls Tryz.prog 9 #[v, .int .i64 0, v', .int .i64 0] wx fun r w' => r = .returned (.bool true) ∧ ∃ d, w' = wx.drewN d) := pLS
  have CM : Hid (∀ wx, Calls Tryz.prog 10 #[.int .i64 q, .int .i64 n] wx fun x w' => x = .returned (.int .i64 0) ∧ Below wx.heap.size wx w') := pCM
  have PF : Hid (∀ wx, Below w.heap.size w wx → Calls Tryz.prog 11 #[.agg #[.int .i64 q, .int .i64 n, .slice ao m ca], .int .i64 r] wx fun x w' => x = .returned (.tuple #[.bool false, .int .i64 10]) ∧ Below wx.heap.size wx w') := pPF
  clear pHV pWM pRB pGB pQB pLS pCM pPF
  obtain ⟨w0, hw0⟩ : ∃ w0, w0 = w.alloc (.cells #[.int .i64 q, .int .i64 n, .slice ao m ca] 24) := ⟨_, rfl⟩
  have H0 : Hid (Below w.heap.size w w0 ∧ CB w.heap.size q n (.slice ao m ca) w0 ∧ w0.heap.size = w.heap.size + 1) := by
    have := box_at q n (.slice ao m ca) w
    rw [← hw0] at this; exact this
  obtain ⟨q0, q1, q2⟩ := H0.out.2.1
  rw [hw0] at q0 q1 q2
  go_enter Tryz.func3, Tryz.ntmps3
  go_wp2_with fail
  rw [← hw0]
  clear q0 q1 q2 hw0
  refine (HV.out w0 H0.out.1).mono ?_
  rintro x wH ⟨rfl, hw⟩
  have hw := hw.symm
  subst hw
  obtain ⟨c0, c1, c2⟩ := H0.out.2.1
  go_wp2_with fail
  refine (WM.out w0 H0.out.1).mono ?_
  rintro x w1 ⟨rfl, hb1⟩
  have H1 : Hid (Below w.heap.size w w1 ∧ CB w.heap.size q n (.slice ao m ca) w1) := ⟨below_two' H0.out.1 hb1, H0.out.2.1.keep hb1⟩
  clear hb1 c0 c1 c2
  obtain ⟨c0, c1, c2⟩ := H1.out.2
  go_wp2_with fail
  refine (RB.out w1 H1.out.1).mono ?_
  rintro x w2 ⟨vr, rfl, hq2, hb2⟩
  have H2 : Hid (Below w.heap.size w w2 ∧ CB w.heap.size q n (.slice ao m ca) w2 ∧ Q vr w2) := ⟨below_two' H1.out.1 hb2, H1.out.2.keep hb2, hq2⟩
  clear hb2 c0 c1 c2 hq2
  obtain ⟨c0, c1, c2⟩ := H2.out.2.1
  go_wp2_with fail
  refine (GB.out w2 H2.out.1).mono ?_
  rintro x w3 ⟨vg, rfl, hq3, hb3⟩
  have HLs : Hid (Calls Tryz.prog 9 #[vg, .int .i64 0, vr, .int .i64 0] w3 fun r w' => r = .returned (.bool true) ∧ ∃ d, w' = w3.drewN d) := LS.out vg vr w3 hq3 (QB.out vr w2 w3 H2.out.2.2 hb3)
  have H3 : Hid (Below w.heap.size w w3 ∧ CB w.heap.size q n (.slice ao m ca) w3) := ⟨below_two' H2.out.1 hb3, H2.out.2.1.keep hb3⟩
  clear hb3 c0 c1 c2 hq3
  go_wp2_with fail
  refine HLs.out.mono ?_
  rintro x w4 ⟨rfl, dd, hw4⟩
  have hb4 : Below w3.heap.size w3 w4 := by rw [hw4]; exact below_drewN2 (Below.refl _ _) dd
  have H4 : Hid (Below w.heap.size w w4 ∧ CB w.heap.size q n (.slice ao m ca) w4) := ⟨below_two' H3.out.1 hb4, H3.out.2.keep hb4⟩
  clear hb4 hw4
  obtain ⟨c0, c1, c2⟩ := H4.out.2
  go_wp2_with fail
  refine (CM.out w4).mono ?_
  rintro x wC ⟨rfl, hbC⟩
  have HC : Hid (Below w.heap.size w wC ∧ CB w.heap.size q n (.slice ao m ca) wC) := ⟨below_two' H4.out.1 hbC, H4.out.2.keep hbC⟩
  clear hbC c0 c1 c2
  obtain ⟨c0, c1, c2⟩ := HC.out.2
  by_cases hr1 : r < 0
  · go_wp2_with fail
    refine (PF.out wC HC.out.1).mono ?_
    rintro x wP ⟨rfl, hbP⟩
    have HP : Hid (Below w.heap.size w wP ∧ CB w.heap.size q n (.slice ao m ca) wP) := ⟨below_two' HC.out.1 hbP, HC.out.2.keep hbP⟩
    clear hbP c0 c1 c2
    obtain ⟨c0, c1, c2⟩ := HP.out.2
    go_wp2
    go_ret
    exact ⟨by first | rfl | simp, HP.out.1⟩
  · have hr2 : r > n := hr.elim (fun h => absurd h hr1) id
    go_wp2_with fail
    refine (PF.out wC HC.out.1).mono ?_
    rintro x wP ⟨rfl, hbP⟩
    have HP : Hid (Below w.heap.size w wP ∧ CB w.heap.size q n (.slice ao m ca) wP) := ⟨below_two' HC.out.1 hbP, HC.out.2.keep hbP⟩
    clear hbP c0 c1 c2
    obtain ⟨c0, c1, c2⟩ := HP.out.2
    go_wp2
    go_ret
    exact ⟨by first | rfl | simp, HP.out.1⟩
set_option maxHeartbeats 8000000 in
set_option maxRecDepth 100000 in
theorem gbw_Bv1 (q n wt r : Int) {ao : Option Addr} {m ca : Nat} {w : World} (hw1 : ¬ wt < 1) (hw2 : ¬ wt > n) {Q : Value → World → Prop} (hr1 : ¬ r < 0) (hr2 : ¬ r > n) (hr3 : r ≤ 1000) {tb : Bool} {k d nk al bl r2 : Nat} (hnk : n - (k : Int) = (nk : Int)) (hnk2 : nk ≤ 1000) (hr2i : (2 : Int) * r = (r2 : Int)) (hr2b : r2 ≤ 10000) (hd : d = 0) (htb : ((bl : Int) == (al : Int)) = tb)
    (pHV : ∀ wx, Below w.heap.size w wx → Calls Tryz.prog 5 #[.slice ao m ca] wx fun r w' => r = .returned (.bool false) ∧ w' = wx)
    (pWM : ∀ wx, Below w.heap.size w wx → Calls Tryz.prog 6 #[.agg #[.int .i64 q, .int .i64 n, .slice ao m ca]] wx fun x w' => x = .returned (.int .i64 0) ∧ Below wx.heap.size wx w')
    (pRB : ∀ wx, Below w.heap.size w wx → Calls Tryz.prog 7 #[.agg #[.int .i64 q, .int .i64 n, .slice ao m ca], .int .i64 wt] wx fun x w' => ∃ v, x = .returned v ∧ Q v w' ∧ Below wx.heap.size wx w')
    (pGB : ∀ wx, Below w.heap.size w wx → Calls Tryz.prog 8 #[.agg #[.int .i64 q, .int .i64 n, .slice ao m ca], .int .i64 wt] wx fun x w' => ∃ v, x = .returned (.tuple #[v, .int .i64 0]) ∧ Q v w' ∧ Below wx.heap.size wx w')
    (pQB : ∀ v wx wy, Q v wx → Below wx.heap.size wx wy → Q v wy)
    (pLS : ∀ v v' wx, Q v wx → Q v' wx → Calls Tryz.prog 9 #[v, .int .i64 0, v', .int .i64 0] wx fun r w' => r = .returned (.bool true) ∧ ∃ d, w' = wx.drewN d)
    (pCM : ∀ wx, Calls Tryz.prog 10 #[.int .i64 q, .int .i64 n] wx fun x w' => x = .returned (.int .i64 0) ∧ Below wx.heap.size wx w')
    (pPF : ∀ wx, Below w.heap.size w wx → Calls Tryz.prog 11 #[.agg #[.int .i64 q, .int .i64 n, .slice ao m ca], .int .i64 r] wx fun x w' => x = .returned (.tuple #[.bool tb, .int .i64 0]) ∧ Below wx.heap.size wx w')
    (pMD : ∀ wx, Below w.heap.size w wx → Calls Tryz.prog 12 #[.agg #[.int .i64 q, .int .i64 n, .slice ao m ca]] wx fun x w' => ∃ ro rc, x = .returned (.agg #[.int .i64 q, .int .i64 n, .slice ro k rc]) ∧ Below wx.heap.size wx w')
    (pWD : ∀ wx, Below w.heap.size w wx → Calls Tryz.prog 14 #[.agg #[.int .i64 q, .int .i64 n, .slice ao m ca]] wx fun x w' => ∃ go gk gc, x = .returned (.slice go gk gc) ∧ Below wx.heap.size wx w' ∧ Calls Tryz.prog 13 #[.slice go gk gc] w' fun y w2 => y = .returned (.int .i64 (d : Nat)) ∧ w2 = w')
    (pPW : ∀ wx, Calls Tryz.prog 15 #[.int .i64 q, .int .i64 (nk : Nat)] wx fun x w' => x = .returned (.int .i64 (al : Nat)) ∧ Below wx.heap.size wx w')
    (pBL : ∀ wx, Calls Tryz.prog 16 #[.int .i64 q, .int .i64 n, .int .i64 r] wx fun x w' => x = .returned (.int .i64 (bl : Nat)) ∧ Below wx.heap.size wx w')
    : Calls Tryz.prog 3 #[.agg #[.int .i64 q, .int .i64 n, .slice ao m ca], .int .i64 wt, .int .i64 r] w fun x w' => x = .returned (.bool true) ∧ Below w.heap.size w w' := by
  have HV : Hid (∀ wx, Below w.heap.size w wx → Calls Tryz.prog 5 #[.slice ao m ca] wx fun r w' => r = .returned (.bool false) ∧ w' = wx) := pHV
  have WM : Hid (∀ wx, Below w.heap.size w wx → Calls Tryz.prog 6 #[.agg #[.int .i64 q, .int .i64 n, .slice ao m ca]] wx fun x w' => x = .returned (.int .i64 0) ∧ Below wx.heap.size wx w') := pWM
  have RB : Hid (∀ wx, Below w.heap.size w wx → Calls Tryz.prog 7 #[.agg #[.int .i64 q, .int .i64 n, .slice ao m ca], .int .i64 wt] wx fun x w' => ∃ v, x = .returned v ∧ Q v w' ∧ Below wx.heap.size wx w') := pRB
  have GB : Hid (∀ wx, Below w.heap.size w wx → Calls Tryz.prog 8 #[.agg #[.int .i64 q, .int .i64 n, .slice ao m ca], .int .i64 wt] wx fun x w' => ∃ v, x = .returned (.tuple #[v, .int .i64 0]) ∧ Q v w' ∧ Below wx.heap.size wx w') := pGB
  have QB : Hid (∀ v wx wy, Q v wx → Below wx.heap.size wx wy → Q v wy) := pQB
  have LS : Hid (∀ v v' wx, Q v wx → Q v' wx → Calls Tryz.prog 9 #[v, .int .i64 0, v', .int .i64 0] wx fun r w' => r = .returned (.bool true) ∧ ∃ d, w' = wx.drewN d) := pLS
  have CM : Hid (∀ wx, Calls Tryz.prog 10 #[.int .i64 q, .int .i64 n] wx fun x w' => x = .returned (.int .i64 0) ∧ Below wx.heap.size wx w') := pCM
  have PF : Hid (∀ wx, Below w.heap.size w wx → Calls Tryz.prog 11 #[.agg #[.int .i64 q, .int .i64 n, .slice ao m ca], .int .i64 r] wx fun x w' => x = .returned (.tuple #[.bool tb, .int .i64 0]) ∧ Below wx.heap.size wx w') := pPF
  have MD : Hid (∀ wx, Below w.heap.size w wx → Calls Tryz.prog 12 #[.agg #[.int .i64 q, .int .i64 n, .slice ao m ca]] wx fun x w' => ∃ ro rc, x = .returned (.agg #[.int .i64 q, .int .i64 n, .slice ro k rc]) ∧ Below wx.heap.size wx w') := pMD
  have WD : Hid (∀ wx, Below w.heap.size w wx → Calls Tryz.prog 14 #[.agg #[.int .i64 q, .int .i64 n, .slice ao m ca]] wx fun x w' => ∃ go gk gc, x = .returned (.slice go gk gc) ∧ Below wx.heap.size wx w' ∧ Calls Tryz.prog 13 #[.slice go gk gc] w' fun y w2 => y = .returned (.int .i64 (d : Nat)) ∧ w2 = w') := pWD
  have PW : Hid (∀ wx, Calls Tryz.prog 15 #[.int .i64 q, .int .i64 (nk : Nat)] wx fun x w' => x = .returned (.int .i64 (al : Nat)) ∧ Below wx.heap.size wx w') := pPW
  have BL : Hid (∀ wx, Calls Tryz.prog 16 #[.int .i64 q, .int .i64 n, .int .i64 r] wx fun x w' => x = .returned (.int .i64 (bl : Nat)) ∧ Below wx.heap.size wx w') := pBL
  clear pHV pWM pRB pGB pQB pLS pCM pPF pMD pWD pPW pBL
  obtain ⟨w0, hw0⟩ : ∃ w0, w0 = w.alloc (.cells #[.int .i64 q, .int .i64 n, .slice ao m ca] 24) := ⟨_, rfl⟩
  have H0 : Hid (Below w.heap.size w w0 ∧ CB w.heap.size q n (.slice ao m ca) w0 ∧ w0.heap.size = w.heap.size + 1) := by
    have := box_at q n (.slice ao m ca) w
    rw [← hw0] at this; exact this
  obtain ⟨q0, q1, q2⟩ := H0.out.2.1
  rw [hw0] at q0 q1 q2
  have wnk : IntKind.i64.wrap (nk : Int) = (nk : Int) := wrap_to (by omega) (by omega)
  have wr2 : IntKind.i64.wrap (r2 : Int) = (r2 : Int) := wrap_to (by omega) (by omega)
  subst hd
  have HNk : Hid (∀ e : Int, e = (nk : Int) → e = (nk : Int)) := fun _ h => h
  go_enter Tryz.func3, Tryz.ntmps3
  go_wp2_with fail
  rw [← hw0]
  clear q0 q1 q2 hw0
  refine (HV.out w0 H0.out.1).mono ?_
  rintro x wH ⟨rfl, hw⟩
  have hw := hw.symm
  subst hw
  obtain ⟨c0, c1, c2⟩ := H0.out.2.1
  go_wp2_with fail
  refine (WM.out w0 H0.out.1).mono ?_
  rintro x w1 ⟨rfl, hb1⟩
  have H1 : Hid (Below w.heap.size w w1 ∧ CB w.heap.size q n (.slice ao m ca) w1) := ⟨below_two' H0.out.1 hb1, H0.out.2.1.keep hb1⟩
  clear hb1 c0 c1 c2
  obtain ⟨c0, c1, c2⟩ := H1.out.2
  go_wp2_with fail
  refine (RB.out w1 H1.out.1).mono ?_
  rintro x w2 ⟨vr, rfl, hq2, hb2⟩
  have H2 : Hid (Below w.heap.size w w2 ∧ CB w.heap.size q n (.slice ao m ca) w2 ∧ Q vr w2) := ⟨below_two' H1.out.1 hb2, H1.out.2.keep hb2, hq2⟩
  clear hb2 c0 c1 c2 hq2
  obtain ⟨c0, c1, c2⟩ := H2.out.2.1
  go_wp2_with fail
  refine (GB.out w2 H2.out.1).mono ?_
  rintro x w3 ⟨vg, rfl, hq3, hb3⟩
  have HLs : Hid (Calls Tryz.prog 9 #[vg, .int .i64 0, vr, .int .i64 0] w3 fun r w' => r = .returned (.bool true) ∧ ∃ d, w' = w3.drewN d) := LS.out vg vr w3 hq3 (QB.out vr w2 w3 H2.out.2.2 hb3)
  have H3 : Hid (Below w.heap.size w w3 ∧ CB w.heap.size q n (.slice ao m ca) w3) := ⟨below_two' H2.out.1 hb3, H2.out.2.1.keep hb3⟩
  clear hb3 c0 c1 c2 hq3
  go_wp2_with fail
  refine HLs.out.mono ?_
  rintro x w4 ⟨rfl, dd, hw4⟩
  have hb4 : Below w3.heap.size w3 w4 := by rw [hw4]; exact below_drewN2 (Below.refl _ _) dd
  have H4 : Hid (Below w.heap.size w w4 ∧ CB w.heap.size q n (.slice ao m ca) w4) := ⟨below_two' H3.out.1 hb4, H3.out.2.keep hb4⟩
  clear hb4 hw4
  obtain ⟨c0, c1, c2⟩ := H4.out.2
  go_wp2_with fail
  refine (CM.out w4).mono ?_
  rintro x wC ⟨rfl, hbC⟩
  have HC : Hid (Below w.heap.size w wC ∧ CB w.heap.size q n (.slice ao m ca) wC) := ⟨below_two' H4.out.1 hbC, H4.out.2.keep hbC⟩
  clear hbC c0 c1 c2
  obtain ⟨c0, c1, c2⟩ := HC.out.2
  go_wp2_with fail
  refine (PF.out wC HC.out.1).mono ?_
  rintro x wP ⟨rfl, hbP⟩
  have HP : Hid (Below w.heap.size w wP ∧ CB w.heap.size q n (.slice ao m ca) wP) := ⟨below_two' HC.out.1 hbP, HC.out.2.keep hbP⟩
  clear hbP c0 c1 c2
  obtain ⟨c0, c1, c2⟩ := HP.out.2
  go_wp2_with fail
  refine (MD.out wP HP.out.1).mono ?_
  rintro x wM ⟨ro, rc, rfl, hbM⟩
  have HM : Hid (Below w.heap.size w wM ∧ CB w.heap.size q n (.slice ao m ca) wM) := ⟨below_two' HP.out.1 hbM, HP.out.2.keep hbM⟩
  clear hbM c0 c1 c2
  obtain ⟨c0, c1, c2⟩ := HM.out.2
  go_wp2_with fail
  refine (WD.out wM HM.out.1).mono ?_
  rintro x wW ⟨go, gk, gc, rfl, hbW, hLe⟩
  have HLe : Hid (Calls Tryz.prog 13 #[.slice go gk gc] wW fun y w2 => y = .returned (.int .i64 (0 : Nat)) ∧ w2 = wW) := hLe
  have HW : Hid (Below w.heap.size w wW ∧ CB w.heap.size q n (.slice ao m ca) wW) := ⟨below_two' HM.out.1 hbW, HM.out.2.keep hbW⟩
  clear hbW c0 c1 c2 hLe
  obtain ⟨c0, c1, c2⟩ := HW.out.2
  go_wp2_with fail
  refine HLe.out.mono ?_
  rintro x wL ⟨rfl, hw⟩
  have hw := hw.symm
  subst hw
  go_wp2_with fail
  refine (PW.out wW).mono ?_
  rintro x wA ⟨rfl, hbA⟩
  have HAx : Hid (Below w.heap.size w wA ∧ CB w.heap.size q n (.slice ao m ca) wA) := ⟨below_two' HW.out.1 hbA, HW.out.2.keep hbA⟩
  clear hbA c0 c1 c2
  obtain ⟨c0, c1, c2⟩ := HAx.out.2
  go_wp2_with fail
  refine (BL.out wA).mono ?_
  rintro x wB ⟨rfl, hbB⟩
  have HB : Hid (Below w.heap.size w wB) := below_two' HAx.out.1 hbB
  clear hbB c0 c1 c2
  go_wp2
  go_ret
  exact ⟨by first | rfl | (rw [htb]; simp) | simp [htb], HB.out⟩
set_option maxHeartbeats 8000000 in
set_option maxRecDepth 100000 in
theorem gbw_Bv2 (q n wt r : Int) {ao : Option Addr} {m ca : Nat} {w : World} (hw1 : ¬ wt < 1) (hw2 : ¬ wt > n) {Q : Value → World → Prop} (hr1 : ¬ r < 0) (hr2 : ¬ r > n) (hr3 : r ≤ 1000) {tb : Bool} {k d nk al bl r2 : Nat} (hnk : n - (k : Int) = (nk : Int)) (hnk2 : nk ≤ 1000) (hr2i : (2 : Int) * r = (r2 : Int)) (hr2b : r2 ≤ 10000) (hd : r2 < d) (htb : ((bl : Int) == (al : Int)) = tb)
    (pHV : ∀ wx, Below w.heap.size w wx → Calls Tryz.prog 5 #[.slice ao m ca] wx fun r w' => r = .returned (.bool false) ∧ w' = wx)
    (pWM : ∀ wx, Below w.heap.size w wx → Calls Tryz.prog 6 #[.agg #[.int .i64 q, .int .i64 n, .slice ao m ca]] wx fun x w' => x = .returned (.int .i64 0) ∧ Below wx.heap.size wx w')
    (pRB : ∀ wx, Below w.heap.size w wx → Calls Tryz.prog 7 #[.agg #[.int .i64 q, .int .i64 n, .slice ao m ca], .int .i64 wt] wx fun x w' => ∃ v, x = .returned v ∧ Q v w' ∧ Below wx.heap.size wx w')
    (pGB : ∀ wx, Below w.heap.size w wx → Calls Tryz.prog 8 #[.agg #[.int .i64 q, .int .i64 n, .slice ao m ca], .int .i64 wt] wx fun x w' => ∃ v, x = .returned (.tuple #[v, .int .i64 0]) ∧ Q v w' ∧ Below wx.heap.size wx w')
    (pQB : ∀ v wx wy, Q v wx → Below wx.heap.size wx wy → Q v wy)
    (pLS : ∀ v v' wx, Q v wx → Q v' wx → Calls Tryz.prog 9 #[v, .int .i64 0, v', .int .i64 0] wx fun r w' => r = .returned (.bool true) ∧ ∃ d, w' = wx.drewN d)
    (pCM : ∀ wx, Calls Tryz.prog 10 #[.int .i64 q, .int .i64 n] wx fun x w' => x = .returned (.int .i64 0) ∧ Below wx.heap.size wx w')
    (pPF : ∀ wx, Below w.heap.size w wx → Calls Tryz.prog 11 #[.agg #[.int .i64 q, .int .i64 n, .slice ao m ca], .int .i64 r] wx fun x w' => x = .returned (.tuple #[.bool tb, .int .i64 0]) ∧ Below wx.heap.size wx w')
    (pMD : ∀ wx, Below w.heap.size w wx → Calls Tryz.prog 12 #[.agg #[.int .i64 q, .int .i64 n, .slice ao m ca]] wx fun x w' => ∃ ro rc, x = .returned (.agg #[.int .i64 q, .int .i64 n, .slice ro k rc]) ∧ Below wx.heap.size wx w')
    (pWD : ∀ wx, Below w.heap.size w wx → Calls Tryz.prog 14 #[.agg #[.int .i64 q, .int .i64 n, .slice ao m ca]] wx fun x w' => ∃ go gk gc, x = .returned (.slice go gk gc) ∧ Below wx.heap.size wx w' ∧ Calls Tryz.prog 13 #[.slice go gk gc] w' fun y w2 => y = .returned (.int .i64 (d : Nat)) ∧ w2 = w')
    (pPW : ∀ wx, Calls Tryz.prog 15 #[.int .i64 q, .int .i64 (nk : Nat)] wx fun x w' => x = .returned (.int .i64 (al : Nat)) ∧ Below wx.heap.size wx w')
    (pBL : ∀ wx, Calls Tryz.prog 16 #[.int .i64 q, .int .i64 n, .int .i64 r] wx fun x w' => x = .returned (.int .i64 (bl : Nat)) ∧ Below wx.heap.size wx w')
    : Calls Tryz.prog 3 #[.agg #[.int .i64 q, .int .i64 n, .slice ao m ca], .int .i64 wt, .int .i64 r] w fun x w' => x = .returned (.bool true) ∧ Below w.heap.size w w' := by
  have HV : Hid (∀ wx, Below w.heap.size w wx → Calls Tryz.prog 5 #[.slice ao m ca] wx fun r w' => r = .returned (.bool false) ∧ w' = wx) := pHV
  have WM : Hid (∀ wx, Below w.heap.size w wx → Calls Tryz.prog 6 #[.agg #[.int .i64 q, .int .i64 n, .slice ao m ca]] wx fun x w' => x = .returned (.int .i64 0) ∧ Below wx.heap.size wx w') := pWM
  have RB : Hid (∀ wx, Below w.heap.size w wx → Calls Tryz.prog 7 #[.agg #[.int .i64 q, .int .i64 n, .slice ao m ca], .int .i64 wt] wx fun x w' => ∃ v, x = .returned v ∧ Q v w' ∧ Below wx.heap.size wx w') := pRB
  have GB : Hid (∀ wx, Below w.heap.size w wx → Calls Tryz.prog 8 #[.agg #[.int .i64 q, .int .i64 n, .slice ao m ca], .int .i64 wt] wx fun x w' => ∃ v, x = .returned (.tuple #[v, .int .i64 0]) ∧ Q v w' ∧ Below wx.heap.size wx w') := pGB
  have QB : Hid (∀ v wx wy, Q v wx → Below wx.heap.size wx wy → Q v wy) := pQB
  have LS : Hid (∀ v v' wx, Q v wx → Q v' wx → Calls Tryz.prog 9 #[v, .int .i64 0, v', .int .i64 0] wx fun r w' => r = .returned (.bool true) ∧ ∃ d, w' = wx.drewN d) := pLS
  have CM : Hid (∀ wx, Calls Tryz.prog 10 #[.int .i64 q, .int .i64 n] wx fun x w' => x = .returned (.int .i64 0) ∧ Below wx.heap.size wx w') := pCM
  have PF : Hid (∀ wx, Below w.heap.size w wx → Calls Tryz.prog 11 #[.agg #[.int .i64 q, .int .i64 n, .slice ao m ca], .int .i64 r] wx fun x w' => x = .returned (.tuple #[.bool tb, .int .i64 0]) ∧ Below wx.heap.size wx w') := pPF
  have MD : Hid (∀ wx, Below w.heap.size w wx → Calls Tryz.prog 12 #[.agg #[.int .i64 q, .int .i64 n, .slice ao m ca]] wx fun x w' => ∃ ro rc, x = .returned (.agg #[.int .i64 q, .int .i64 n, .slice ro k rc]) ∧ Below wx.heap.size wx w') := pMD
  have WD : Hid (∀ wx, Below w.heap.size w wx → Calls Tryz.prog 14 #[.agg #[.int .i64 q, .int .i64 n, .slice ao m ca]] wx fun x w' => ∃ go gk gc, x = .returned (.slice go gk gc) ∧ Below wx.heap.size wx w' ∧ Calls Tryz.prog 13 #[.slice go gk gc] w' fun y w2 => y = .returned (.int .i64 (d : Nat)) ∧ w2 = w') := pWD
  have PW : Hid (∀ wx, Calls Tryz.prog 15 #[.int .i64 q, .int .i64 (nk : Nat)] wx fun x w' => x = .returned (.int .i64 (al : Nat)) ∧ Below wx.heap.size wx w') := pPW
  have BL : Hid (∀ wx, Calls Tryz.prog 16 #[.int .i64 q, .int .i64 n, .int .i64 r] wx fun x w' => x = .returned (.int .i64 (bl : Nat)) ∧ Below wx.heap.size wx w') := pBL
  clear pHV pWM pRB pGB pQB pLS pCM pPF pMD pWD pPW pBL
  obtain ⟨w0, hw0⟩ : ∃ w0, w0 = w.alloc (.cells #[.int .i64 q, .int .i64 n, .slice ao m ca] 24) := ⟨_, rfl⟩
  have H0 : Hid (Below w.heap.size w w0 ∧ CB w.heap.size q n (.slice ao m ca) w0 ∧ w0.heap.size = w.heap.size + 1) := by
    have := box_at q n (.slice ao m ca) w
    rw [← hw0] at this; exact this
  obtain ⟨q0, q1, q2⟩ := H0.out.2.1
  rw [hw0] at q0 q1 q2
  have wnk : IntKind.i64.wrap (nk : Int) = (nk : Int) := wrap_to (by omega) (by omega)
  have wr2 : IntKind.i64.wrap (r2 : Int) = (r2 : Int) := wrap_to (by omega) (by omega)
  have zd : ((d : Int) == 0) = false := beq_eq_false_iff_ne.2 (by omega)
  have zd2 : (d : Int) > (r2 : Int) := by omega
  have HNk : Hid (∀ e : Int, e = (nk : Int) → e = (nk : Int)) := fun _ h => h
  go_enter Tryz.func3, Tryz.ntmps3
  go_wp2_with fail
  rw [← hw0]
  clear q0 q1 q2 hw0
  refine (HV.out w0 H0.out.1).mono ?_
  rintro x wH ⟨rfl, hw⟩
  have hw := hw.symm
  subst hw
  obtain ⟨c0, c1, c2⟩ := H0.out.2.1
  go_wp2_with fail
  refine (WM.out w0 H0.out.1).mono ?_
  rintro x w1 ⟨rfl, hb1⟩
  have H1 : Hid (Below w.heap.size w w1 ∧ CB w.heap.size q n (.slice ao m ca) w1) := ⟨below_two' H0.out.1 hb1, H0.out.2.1.keep hb1⟩
  clear hb1 c0 c1 c2
  obtain ⟨c0, c1, c2⟩ := H1.out.2
  go_wp2_with fail
  refine (RB.out w1 H1.out.1).mono ?_
  rintro x w2 ⟨vr, rfl, hq2, hb2⟩
  have H2 : Hid (Below w.heap.size w w2 ∧ CB w.heap.size q n (.slice ao m ca) w2 ∧ Q vr w2) := ⟨below_two' H1.out.1 hb2, H1.out.2.keep hb2, hq2⟩
  clear hb2 c0 c1 c2 hq2
  obtain ⟨c0, c1, c2⟩ := H2.out.2.1
  go_wp2_with fail
  refine (GB.out w2 H2.out.1).mono ?_
  rintro x w3 ⟨vg, rfl, hq3, hb3⟩
  have HLs : Hid (Calls Tryz.prog 9 #[vg, .int .i64 0, vr, .int .i64 0] w3 fun r w' => r = .returned (.bool true) ∧ ∃ d, w' = w3.drewN d) := LS.out vg vr w3 hq3 (QB.out vr w2 w3 H2.out.2.2 hb3)
  have H3 : Hid (Below w.heap.size w w3 ∧ CB w.heap.size q n (.slice ao m ca) w3) := ⟨below_two' H2.out.1 hb3, H2.out.2.1.keep hb3⟩
  clear hb3 c0 c1 c2 hq3
  go_wp2_with fail
  refine HLs.out.mono ?_
  rintro x w4 ⟨rfl, dd, hw4⟩
  have hb4 : Below w3.heap.size w3 w4 := by rw [hw4]; exact below_drewN2 (Below.refl _ _) dd
  have H4 : Hid (Below w.heap.size w w4 ∧ CB w.heap.size q n (.slice ao m ca) w4) := ⟨below_two' H3.out.1 hb4, H3.out.2.keep hb4⟩
  clear hb4 hw4
  obtain ⟨c0, c1, c2⟩ := H4.out.2
  go_wp2_with fail
  refine (CM.out w4).mono ?_
  rintro x wC ⟨rfl, hbC⟩
  have HC : Hid (Below w.heap.size w wC ∧ CB w.heap.size q n (.slice ao m ca) wC) := ⟨below_two' H4.out.1 hbC, H4.out.2.keep hbC⟩
  clear hbC c0 c1 c2
  obtain ⟨c0, c1, c2⟩ := HC.out.2
  go_wp2_with fail
  refine (PF.out wC HC.out.1).mono ?_
  rintro x wP ⟨rfl, hbP⟩
  have HP : Hid (Below w.heap.size w wP ∧ CB w.heap.size q n (.slice ao m ca) wP) := ⟨below_two' HC.out.1 hbP, HC.out.2.keep hbP⟩
  clear hbP c0 c1 c2
  obtain ⟨c0, c1, c2⟩ := HP.out.2
  go_wp2_with fail
  refine (MD.out wP HP.out.1).mono ?_
  rintro x wM ⟨ro, rc, rfl, hbM⟩
  have HM : Hid (Below w.heap.size w wM ∧ CB w.heap.size q n (.slice ao m ca) wM) := ⟨below_two' HP.out.1 hbM, HP.out.2.keep hbM⟩
  clear hbM c0 c1 c2
  obtain ⟨c0, c1, c2⟩ := HM.out.2
  go_wp2_with fail
  refine (WD.out wM HM.out.1).mono ?_
  rintro x wW ⟨go, gk, gc, rfl, hbW, hLe⟩
  have HLe : Hid (Calls Tryz.prog 13 #[.slice go gk gc] wW fun y w2 => y = .returned (.int .i64 (d : Nat)) ∧ w2 = wW) := hLe
  have HW : Hid (Below w.heap.size w wW ∧ CB w.heap.size q n (.slice ao m ca) wW) := ⟨below_two' HM.out.1 hbW, HM.out.2.keep hbW⟩
  clear hbW c0 c1 c2 hLe
  obtain ⟨c0, c1, c2⟩ := HW.out.2
  go_wp2_with fail
  refine HLe.out.mono ?_
  rintro x wL ⟨rfl, hw⟩
  have hw := hw.symm
  subst hw
  go_wp2_with fail
  refine (PW.out wW).mono ?_
  rintro x wA ⟨rfl, hbA⟩
  have HAx : Hid (Below w.heap.size w wA ∧ CB w.heap.size q n (.slice ao m ca) wA) := ⟨below_two' HW.out.1 hbA, HW.out.2.keep hbA⟩
  clear hbA c0 c1 c2
  obtain ⟨c0, c1, c2⟩ := HAx.out.2
  go_wp2_with fail
  refine (BL.out wA).mono ?_
  rintro x wB ⟨rfl, hbB⟩
  have HB : Hid (Below w.heap.size w wB) := below_two' HAx.out.1 hbB
  clear hbB c0 c1 c2
  go_wp2
  go_ret
  exact ⟨by first | rfl | (rw [htb]; simp) | simp [htb], HB.out⟩
set_option maxHeartbeats 8000000 in
set_option maxRecDepth 100000 in
theorem gbw_Bv3 (q n wt r : Int) {ao : Option Addr} {m ca : Nat} {w : World} (hw1 : ¬ wt < 1) (hw2 : ¬ wt > n) {Q : Value → World → Prop} (hr1 : ¬ r < 0) (hr2 : ¬ r > n) (hr3 : r ≤ 1000) {tb : Bool} {k d nk al bl r2 : Nat} (hnk : n - (k : Int) = (nk : Int)) (hnk2 : nk ≤ 1000) (hr2i : (2 : Int) * r = (r2 : Int)) (hr2b : r2 ≤ 10000) (hd0 : d ≠ 0) (hd : ¬ r2 < d) (htb : tb = false)
    (pHV : ∀ wx, Below w.heap.size w wx → Calls Tryz.prog 5 #[.slice ao m ca] wx fun r w' => r = .returned (.bool false) ∧ w' = wx)
    (pWM : ∀ wx, Below w.heap.size w wx → Calls Tryz.prog 6 #[.agg #[.int .i64 q, .int .i64 n, .slice ao m ca]] wx fun x w' => x = .returned (.int .i64 0) ∧ Below wx.heap.size wx w')
    (pRB : ∀ wx, Below w.heap.size w wx → Calls Tryz.prog 7 #[.agg #[.int .i64 q, .int .i64 n, .slice ao m ca], .int .i64 wt] wx fun x w' => ∃ v, x = .returned v ∧ Q v w' ∧ Below wx.heap.size wx w')
    (pGB : ∀ wx, Below w.heap.size w wx → Calls Tryz.prog 8 #[.agg #[.int .i64 q, .int .i64 n, .slice ao m ca], .int .i64 wt] wx fun x w' => ∃ v, x = .returned (.tuple #[v, .int .i64 0]) ∧ Q v w' ∧ Below wx.heap.size wx w')
    (pQB : ∀ v wx wy, Q v wx → Below wx.heap.size wx wy → Q v wy)
    (pLS : ∀ v v' wx, Q v wx → Q v' wx → Calls Tryz.prog 9 #[v, .int .i64 0, v', .int .i64 0] wx fun r w' => r = .returned (.bool true) ∧ ∃ d, w' = wx.drewN d)
    (pCM : ∀ wx, Calls Tryz.prog 10 #[.int .i64 q, .int .i64 n] wx fun x w' => x = .returned (.int .i64 0) ∧ Below wx.heap.size wx w')
    (pPF : ∀ wx, Below w.heap.size w wx → Calls Tryz.prog 11 #[.agg #[.int .i64 q, .int .i64 n, .slice ao m ca], .int .i64 r] wx fun x w' => x = .returned (.tuple #[.bool tb, .int .i64 0]) ∧ Below wx.heap.size wx w')
    (pMD : ∀ wx, Below w.heap.size w wx → Calls Tryz.prog 12 #[.agg #[.int .i64 q, .int .i64 n, .slice ao m ca]] wx fun x w' => ∃ ro rc, x = .returned (.agg #[.int .i64 q, .int .i64 n, .slice ro k rc]) ∧ Below wx.heap.size wx w')
    (pWD : ∀ wx, Below w.heap.size w wx → Calls Tryz.prog 14 #[.agg #[.int .i64 q, .int .i64 n, .slice ao m ca]] wx fun x w' => ∃ go gk gc, x = .returned (.slice go gk gc) ∧ Below wx.heap.size wx w' ∧ Calls Tryz.prog 13 #[.slice go gk gc] w' fun y w2 => y = .returned (.int .i64 (d : Nat)) ∧ w2 = w')
    (pPW : ∀ wx, Calls Tryz.prog 15 #[.int .i64 q, .int .i64 (nk : Nat)] wx fun x w' => x = .returned (.int .i64 (al : Nat)) ∧ Below wx.heap.size wx w')
    (pBL : ∀ wx, Calls Tryz.prog 16 #[.int .i64 q, .int .i64 n, .int .i64 r] wx fun x w' => x = .returned (.int .i64 (bl : Nat)) ∧ Below wx.heap.size wx w')
    : Calls Tryz.prog 3 #[.agg #[.int .i64 q, .int .i64 n, .slice ao m ca], .int .i64 wt, .int .i64 r] w fun x w' => x = .returned (.bool true) ∧ Below w.heap.size w w' := by
  have HV : Hid (∀ wx, Below w.heap.size w wx → Calls Tryz.prog 5 #[.slice ao m ca] wx fun r w' => r = .returned (.bool false) ∧ w' = wx) := pHV
  have WM : Hid (∀ wx, Below w.heap.size w wx → Calls Tryz.prog 6 #[.agg #[.int .i64 q, .int .i64 n, .slice ao m ca]] wx fun x w' => x = .returned (.int .i64 0) ∧ Below wx.heap.size wx w') := pWM
  have RB : Hid (∀ wx, Below w.heap.size w wx → Calls Tryz.prog 7 #[.agg #[.int .i64 q, .int .i64 n, .slice ao m ca], .int .i64 wt] wx fun x w' => ∃ v, x = .returned v ∧ Q v w' ∧ Below wx.heap.size wx w') := pRB
  have GB : Hid (∀ wx, Below w.heap.size w wx → Calls Tryz.prog 8 #[.agg #[.int .i64 q, .int .i64 n, .slice ao m ca], .int .i64 wt] wx fun x w' => ∃ v, x = .returned (.tuple #[v, .int .i64 0]) ∧ Q v w' ∧ Below wx.heap.size wx w') := pGB
  have QB : Hid (∀ v wx wy, Q v wx → Below wx.heap.size wx wy → Q v wy) := pQB
  have LS : Hid (∀ v v' wx, Q v wx → Q v' wx → Calls Tryz.prog 9 #[v, .int .i64 0, v', .int .i64 0] wx fun r w' => r = .returned (.bool true) ∧ ∃ d, w' = wx.drewN d) := pLS
  have CM : Hid (∀ wx, Calls Tryz.prog 10 #[.int .i64 q, .int .i64 n] wx fun x w' => x = .returned (.int .i64 0) ∧ Below wx.heap.size wx w') := pCM
  have PF : Hid (∀ wx, Below w.heap.size w wx → Calls Tryz.prog 11 #[.agg #[.int .i64 q, .int .i64 n, .slice ao m ca], .int .i64 r] wx fun x w' => x = .returned (.tuple #[.bool tb, .int .i64 0]) ∧ Below wx.heap.size wx w') := pPF
  have MD : Hid (∀ wx, Below w.heap.size w wx → Calls Tryz.prog 12 #[.agg #[.int .i64 q, .int .i64 n, .slice ao m ca]] wx fun x w' => ∃ ro rc, x = .returned (.agg #[.int .i64 q, .int .i64 n, .slice ro k rc]) ∧ Below wx.heap.size wx w') := pMD
  have WD : Hid (∀ wx, Below w.heap.size w wx → Calls Tryz.prog 14 #[.agg #[.int .i64 q, .int .i64 n, .slice ao m ca]] wx fun x w' => ∃ go gk gc, x = .returned (.slice go gk gc) ∧ Below wx.heap.size wx w' ∧ Calls Tryz.prog 13 #[.slice go gk gc] w' fun y w2 => y = .returned (.int .i64 (d : Nat)) ∧ w2 = w') := pWD
  have PW : Hid (∀ wx, Calls Tryz.prog 15 #[.int .i64 q, .int .i64 (nk : Nat)] wx fun x w' => x = .returned (.int .i64 (al : Nat)) ∧ Below wx.heap.size wx w') := pPW
  have BL : Hid (∀ wx, Calls Tryz.prog 16 #[.int .i64 q, .int .i64 n, .int .i64 r] wx fun x w' => x = .returned (.int .i64 (bl : Nat)) ∧ Below wx.heap.size wx w') := pBL
  clear pHV pWM pRB pGB pQB pLS pCM pPF pMD pWD pPW pBL
  obtain ⟨w0, hw0⟩ : ∃ w0, w0 = w.alloc (.cells #[.int .i64 q, .int .i64 n, .slice ao m ca] 24) := ⟨_, rfl⟩
  have H0 : Hid (Below w.heap.size w w0 ∧ CB w.heap.size q n (.slice ao m ca) w0 ∧ w0.heap.size = w.heap.size + 1) := by
    have := box_at q n (.slice ao m ca) w
    rw [← hw0] at this; exact this
  obtain ⟨q0, q1, q2⟩ := H0.out.2.1
  rw [hw0] at q0 q1 q2
  have wnk : IntKind.i64.wrap (nk : Int) = (nk : Int) := wrap_to (by omega) (by omega)
  have wr2 : IntKind.i64.wrap (r2 : Int) = (r2 : Int) := wrap_to (by omega) (by omega)
  have zd : ((d : Int) == 0) = false := beq_eq_false_iff_ne.2 (by omega)
  have zd2 : ¬ (d : Int) > (r2 : Int) := by omega
  subst htb
  have HNk : Hid (∀ e : Int, e = (nk : Int) → e = (nk : Int)) := fun _ h => h
  go_enter Tryz.func3, Tryz.ntmps3
  go_wp2_with fail
  rw [← hw0]
  clear q0 q1 q2 hw0
  refine (HV.out w0 H0.out.1).mono ?_
  rintro x wH ⟨rfl, hw⟩
  have hw := hw.symm
  subst hw
  obtain ⟨c0, c1, c2⟩ := H0.out.2.1
  go_wp2_with fail
  refine (WM.out w0 H0.out.1).mono ?_
  rintro x w1 ⟨rfl, hb1⟩
  have H1 : Hid (Below w.heap.size w w1 ∧ CB w.heap.size q n (.slice ao m ca) w1) := ⟨below_two' H0.out.1 hb1, H0.out.2.1.keep hb1⟩
  clear hb1 c0 c1 c2
  obtain ⟨c0, c1, c2⟩ := H1.out.2
  go_wp2_with fail
  refine (RB.out w1 H1.out.1).mono ?_
  rintro x w2 ⟨vr, rfl, hq2, hb2⟩
  have H2 : Hid (Below w.heap.size w w2 ∧ CB w.heap.size q n (.slice ao m ca) w2 ∧ Q vr w2) := ⟨below_two' H1.out.1 hb2, H1.out.2.keep hb2, hq2⟩
  clear hb2 c0 c1 c2 hq2
  obtain ⟨c0, c1, c2⟩ := H2.out.2.1
  go_wp2_with fail
  refine (GB.out w2 H2.out.1).mono ?_
  rintro x w3 ⟨vg, rfl, hq3, hb3⟩
  have HLs : Hid (Calls Tryz.prog 9 #[vg, .int .i64 0, vr, .int .i64 0] w3 fun r w' => r = .returned (.bool true) ∧ ∃ d, w' = w3.drewN d) := LS.out vg vr w3 hq3 (QB.out vr w2 w3 H2.out.2.2 hb3)
  have H3 : Hid (Below w.heap.size w w3 ∧ CB w.heap.size q n (.slice ao m ca) w3) := ⟨below_two' H2.out.1 hb3, H2.out.2.1.keep hb3⟩
  clear hb3 c0 c1 c2 hq3
  go_wp2_with fail
  refine HLs.out.mono ?_
  rintro x w4 ⟨rfl, dd, hw4⟩
  have hb4 : Below w3.heap.size w3 w4 := by rw [hw4]; exact below_drewN2 (Below.refl _ _) dd
  have H4 : Hid (Below w.heap.size w w4 ∧ CB w.heap.size q n (.slice ao m ca) w4) := ⟨below_two' H3.out.1 hb4, H3.out.2.keep hb4⟩
  clear hb4 hw4
  obtain ⟨c0, c1, c2⟩ := H4.out.2
  go_wp2_with fail
  refine (CM.out w4).mono ?_
  rintro x wC ⟨rfl, hbC⟩
  have HC : Hid (Below w.heap.size w wC ∧ CB w.heap.size q n (.slice ao m ca) wC) := ⟨below_two' H4.out.1 hbC, H4.out.2.keep hbC⟩
  clear hbC c0 c1 c2
  obtain ⟨c0, c1, c2⟩ := HC.out.2
  go_wp2_with fail
  refine (PF.out wC HC.out.1).mono ?_
  rintro x wP ⟨rfl, hbP⟩
  have HP : Hid (Below w.heap.size w wP ∧ CB w.heap.size q n (.slice ao m ca) wP) := ⟨below_two' HC.out.1 hbP, HC.out.2.keep hbP⟩
  clear hbP c0 c1 c2
  obtain ⟨c0, c1, c2⟩ := HP.out.2
  go_wp2_with fail
  refine (MD.out wP HP.out.1).mono ?_
  rintro x wM ⟨ro, rc, rfl, hbM⟩
  have HM : Hid (Below w.heap.size w wM ∧ CB w.heap.size q n (.slice ao m ca) wM) := ⟨below_two' HP.out.1 hbM, HP.out.2.keep hbM⟩
  clear hbM c0 c1 c2
  obtain ⟨c0, c1, c2⟩ := HM.out.2
  go_wp2_with fail
  refine (WD.out wM HM.out.1).mono ?_
  rintro x wW ⟨go, gk, gc, rfl, hbW, hLe⟩
  have HLe : Hid (Calls Tryz.prog 13 #[.slice go gk gc] wW fun y w2 => y = .returned (.int .i64 (d : Nat)) ∧ w2 = wW) := hLe
  have HW : Hid (Below w.heap.size w wW ∧ CB w.heap.size q n (.slice ao m ca) wW) := ⟨below_two' HM.out.1 hbW, HM.out.2.keep hbW⟩
  clear hbW c0 c1 c2 hLe
  obtain ⟨c0, c1, c2⟩ := HW.out.2
  go_wp2_with fail
  refine HLe.out.mono ?_
  rintro x wL ⟨rfl, hw⟩
  have hw := hw.symm
  subst hw
  go_wp2_with fail
  refine (PW.out wW).mono ?_
  rintro x wA ⟨rfl, hbA⟩
  have HAx : Hid (Below w.heap.size w wA ∧ CB w.heap.size q n (.slice ao m ca) wA) := ⟨below_two' HW.out.1 hbA, HW.out.2.keep hbA⟩
  clear hbA c0 c1 c2
  obtain ⟨c0, c1, c2⟩ := HAx.out.2
  go_wp2
  go_ret
  exact ⟨by first | rfl | simp, HAx.out.1⟩
end Go.Proofs.YtdfneklnpghhmaaGreatDoor
