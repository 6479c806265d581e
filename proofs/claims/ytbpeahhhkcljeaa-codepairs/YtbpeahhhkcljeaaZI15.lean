/- CodePairs: the way of an error. -/
import Derived.Test.YtbpeahhhkcljeaaZI13
namespace Go.Proofs.Ytbpeahhhkcljeaa
open Go.RowKit Go.Sort

theorem three_boxes (w : World) : Below w.heap.size w (((w.alloc (.cells #[.int .i64 0, .int .i64 0, .slice none 0 0] 43)).alloc (.cells #[.int .i64 0, .int .i64 0, .slice none 0 0] 43)).alloc (.cells #[.int .i64 0, .int .i64 0, .slice none 0 0] 43)) ∧ CB w.heap.size 0 0 (.slice none 0 0) (((w.alloc (.cells #[.int .i64 0, .int .i64 0, .slice none 0 0] 43)).alloc (.cells #[.int .i64 0, .int .i64 0, .slice none 0 0] 43)).alloc (.cells #[.int .i64 0, .int .i64 0, .slice none 0 0] 43)) ∧ CB (w.heap.size + 1 + 1) 0 0 (.slice none 0 0) (((w.alloc (.cells #[.int .i64 0, .int .i64 0, .slice none 0 0] 43)).alloc (.cells #[.int .i64 0, .int .i64 0, .slice none 0 0] 43)).alloc (.cells #[.int .i64 0, .int .i64 0, .slice none 0 0] 43)) := by
  obtain ⟨h1, h2, _, h4⟩ := two_boxes 0 0 0 0 (.slice none 0 0) (.slice none 0 0) w
  have h5 := CB.new 0 0 (.slice none 0 0) ((w.alloc (.cells #[.int .i64 0, .int .i64 0, .slice none 0 0] 43)).alloc (.cells #[.int .i64 0, .int .i64 0, .slice none 0 0] 43))
  have hbl : Below ((w.alloc (.cells #[.int .i64 0, .int .i64 0, .slice none 0 0] 43)).alloc (.cells #[.int .i64 0, .int .i64 0, .slice none 0 0] 43)).heap.size ((w.alloc (.cells #[.int .i64 0, .int .i64 0, .slice none 0 0] 43)).alloc (.cells #[.int .i64 0, .int .i64 0, .slice none 0 0] 43)) (((w.alloc (.cells #[.int .i64 0, .int .i64 0, .slice none 0 0] 43)).alloc (.cells #[.int .i64 0, .int .i64 0, .slice none 0 0] 43)).alloc (.cells #[.int .i64 0, .int .i64 0, .slice none 0 0] 43)) := (Below.refl _ _).alloc (Nat.le_refl _) _
  rw [h4] at h5
  exact ⟨bel_up' h1 hbl, h2.keep hbl, h5⟩
set_option maxHeartbeats 8000000 in
set_option maxRecDepth 100000 in
theorem cp_err (E ea eb qa na qb nb : Int) {ao bo : Option Addr} {m m' ca cb : Nat} {w : World} (hE : E = cboth ea eb qa qb na nb) (he : E ≠ 0)
    (hA : ∀ wx, Below w.heap.size w wx → Calls Try.prog 9 #[.slice ao m ca] wx fun r w' => r = .returned (.bool false) ∧ w' = wx)
    (hB : ∀ wx, Below w.heap.size w wx → Calls Try.prog 9 #[.slice bo m' cb] wx fun r w' => r = .returned (.bool false) ∧ w' = wx)
    (hMa : ∀ wx, Below w.heap.size w wx → Calls Try.prog 21 #[.agg #[.int .i64 qa, .int .i64 na, .slice ao m ca]] wx fun r w' => r = .returned (.int .i64 ea) ∧ Below wx.heap.size wx w')
    (hMb : ∀ wx, Below w.heap.size w wx → Calls Try.prog 21 #[.agg #[.int .i64 qb, .int .i64 nb, .slice bo m' cb]] wx fun r w' => r = .returned (.int .i64 eb) ∧ Below wx.heap.size wx w')
    (hS : ∀ wx, Below w.heap.size w wx → Calls Try.prog 34 #[.agg #[.int .i64 qa, .int .i64 na, .slice ao m ca], .agg #[.int .i64 qb, .int .i64 nb, .slice bo m' cb]] wx fun x w' => x = .returned (.tuple #[.agg #[.int .i64 0, .int .i64 0, .slice none 0 0], .int .i64 E]) ∧ Below wx.heap.size wx w')
    (hM : ∀ wx, Below w.heap.size w wx → Calls Try.prog 35 #[.agg #[.int .i64 qa, .int .i64 na, .slice ao m ca], .agg #[.int .i64 qb, .int .i64 nb, .slice bo m' cb]] wx fun x w' => x = .returned (.tuple #[.agg #[.int .i64 0, .int .i64 0, .slice none 0 0], .int .i64 E]) ∧ Below wx.heap.size wx w') :
    Calls Try.prog 6 #[.agg #[.int .i64 qa, .int .i64 na, .slice ao m ca], .agg #[.int .i64 qb, .int .i64 nb, .slice bo m' cb]] w fun r w' => r = .returned (.bool true) ∧ Below w.heap.size w w' := by
  obtain ⟨w0, hw0⟩ : ∃ w0, w0 = (w.alloc (.cells #[.int .i64 qa, .int .i64 na, .slice ao m ca] 43)).alloc (.cells #[.int .i64 qb, .int .i64 nb, .slice bo m' cb] 43) := ⟨_, rfl⟩
  have HW : Hid (Below w.heap.size w w0 ∧ CB w.heap.size qa na (.slice ao m ca) w0 ∧ CB (w.heap.size + 1) qb nb (.slice bo m' cb) w0) := by
    obtain ⟨h1, h2, h3, _⟩ := two_boxes qa na qb nb (.slice ao m ca) (.slice bo m' cb) w
    rw [hw0]; exact ⟨h1, h2, h3⟩
  have HA : Hid _ := hA
  have HB : Hid _ := hB
  have HMa : Hid _ := hMa
  have HMb : Hid _ := hMb
  have HSu : Hid _ := hS
  have HMt : Hid _ := hM
  have HEq : Hid (E = cboth ea eb qa qb na nb) := hE
  have HE : Hid (E ≠ 0) := he
  have hz : (E == 0) = false := by rw [beq_eq_false_iff_ne]; exact he
  clear hA hB hMa hMb hS hM hE he
  obtain ⟨b0, b1, b2⟩ := HW.out.2.2
  obtain ⟨a0, a1, a2⟩ := HW.out.2.1
  go_enter Try.func6, Try.ntmps6
  go_wp2_with fail
  rw [← hw0]
  clear hw0
  refine (HA.out _ HW.out.1).mono ?_
  rintro r w' ⟨rfl, hw⟩
  have hw := hw.symm
  subst hw
  go_wp2_with fail
  refine (HB.out _ HW.out.1).mono ?_
  rintro r w' ⟨rfl, hw⟩
  have hw := hw.symm
  subst hw
  go_wp2_with fail
  refine (HMa.out _ HW.out.1).mono ?_
  rintro r w1 ⟨rfl, hb1⟩
  have H1 : Hid (Below w.heap.size w w1 ∧ CB w.heap.size qa na (.slice ao m ca) w1 ∧ CB (w.heap.size + 1) qb nb (.slice bo m' cb) w1) := ⟨bel_up' HW.out.1 hb1, HW.out.2.1.keep hb1, HW.out.2.2.keep hb1⟩
  clear hb1 a0 a1 a2 b0 b1 b2
  have hcb1 := H1.out.2.1
  obtain ⟨a0, a1, a2⟩ := hcb1
  have hcb2 := H1.out.2.2
  obtain ⟨b0, b1, b2⟩ := hcb2
  by_cases h1 : ea = 0
  · have hz1 : (ea == 0) = true := by rw [h1]; rfl
    have HE1 : Hid (E = if eb ≠ 0 then eb else if qa ≠ qb ∨ na ≠ nb then 3 else 0) := by show E = _; rw [HEq.out, cboth, if_neg (fun h => h h1)]
    clear h1
    go_wp2_with fail
    refine (HMb.out _ H1.out.1).mono ?_
    rintro r w2 ⟨rfl, hb2⟩
    have H2 : Hid (Below w.heap.size w w2 ∧ CB w.heap.size qa na (.slice ao m ca) w2 ∧ CB (w.heap.size + 1) qb nb (.slice bo m' cb) w2) := ⟨bel_up' H1.out.1 hb2, H1.out.2.1.keep hb2, H1.out.2.2.keep hb2⟩
    clear hb2 a0 a1 a2 b0 b1 b2
    have hcb1 := H2.out.2.1
    obtain ⟨a0, a1, a2⟩ := hcb1
    have hcb2 := H2.out.2.2
    obtain ⟨b0, b1, b2⟩ := hcb2
    by_cases h2 : eb = 0
    · have hz2 : (eb == 0) = true := by rw [h2]; rfl
      have HE2 : Hid (E = if qa ≠ qb ∨ na ≠ nb then 3 else 0) := by show E = _; rw [HE1.out, if_neg (fun h => h h2)]
      clear h2
      have hE3 : E = 3 := by
        have h := HE2.out
        have h0 := HE.out
        by_cases h3 : qa ≠ qb ∨ na ≠ nb
        · rw [if_pos h3] at h; exact h
        · rw [if_neg h3] at h; exact absurd h h0
      subst hE3
      by_cases h3 : qa = qb
      · have hz3 : (qa != qb) = false := by rw [bne_eq_false_iff_eq]; exact h3
        have hz4 : (na != nb) = true := by
          rw [bne_iff_ne]
          intro h4
          have h := HE2.out
          rw [if_neg (fun x => x.elim (fun y => y h3) (fun y => y h4))] at h
          cases h
        clear h3
        go_wp2_with fail
        clear a0 a1 a2 b0 b1 b2
        refine (HSu.out _ H2.out.1).mono ?_
        rintro r w3 ⟨rfl, hb3⟩
        obtain ⟨w4, hw4⟩ : ∃ w4, w4 = w3.alloc (.cells #[.int .i64 0, .int .i64 0, .slice none 0 0] 43) := ⟨_, rfl⟩
        have H4 : Hid (Below w.heap.size w w4 ∧ CB w.heap.size qa na (.slice ao m ca) w4 ∧ CB (w.heap.size + 1) qb nb (.slice bo m' cb) w4 ∧ CB w3.heap.size 0 0 (.slice none 0 0) w4) := by
          have hbb := bel_up' hb3 (show Below w3.heap.size w3 w4 by rw [hw4]; exact (Below.refl _ _).alloc (Nat.le_refl _) _)
          exact ⟨bel_up' H2.out.1 hbb, H2.out.2.1.keep hbb, H2.out.2.2.keep hbb, by rw [hw4]; exact CB.new _ _ _ _⟩
        have hcb1 := H2.out.2.1.keep hb3
        obtain ⟨a0, a1, a2⟩ := hcb1
        have hcb2 := H2.out.2.2.keep hb3
        obtain ⟨b0, b1, b2⟩ := hcb2
        have hlt1 : w.heap.size < w3.heap.size := cell_lt a0
        have hlt2 : w.heap.size + 1 < w3.heap.size := cell_lt b0
        clear hb3
        go_wp2_with fail
        rw [← hw4]
        clear hw4 a0 a1 a2 b0 b1 b2 hlt1 hlt2
        refine (HMt.out _ H4.out.1).mono ?_
        rintro r w5 ⟨rfl, hb5⟩
        have hcb3 := H4.out.2.2.2.keep hb5
        obtain ⟨c0, c1, c2⟩ := hcb3
        have hlt3 : w3.heap.size < w5.heap.size := cell_lt c0
        have hlt4 : w3.heap.size < w5.heap.size + 1 := by omega
        have hlt5 : w3.heap.size < w5.heap.size + 1 + 1 := by omega
        have H5 : Hid (Below w.heap.size w w5) := bel_up' H4.out.1 hb5
        clear hb5
        go_wp2_with fail
        refine (lsame_err 3 HE.out 0 0 none 0 0 _).mono ?_
        rintro r w6 ⟨rfl, hb6⟩
        have h3b := three_boxes w5
        have H6 : Hid (Below w.heap.size w w6 ∧ CB w5.heap.size 0 0 (.slice none 0 0) w6 ∧ CB (w5.heap.size + 1 + 1) 0 0 (.slice none 0 0) w6) := ⟨bel_up' (bel_up' H5.out h3b.1) hb6, h3b.2.1.keep hb6, h3b.2.2.keep hb6⟩
        clear h3b hb6 c0 c1 c2 hlt3 hlt4 hlt5
        obtain ⟨c0, c1, c2⟩ := H6.out.2.1
        obtain ⟨d0, d1, d2⟩ := H6.out.2.2
        go_wp2_with fail
        refine (lsame_err 3 HE.out 0 0 none 0 0 _).mono ?_
        rintro r w7 ⟨rfl, hb7⟩
        have H7 : Hid (Below w.heap.size w w7) := bel_up' H6.out.1 hb7
        clear hb7
        go_wp2
        go_ret
        exact ⟨rfl, H7.out⟩
      · have hz3 : (qa != qb) = true := by rw [bne_iff_ne]; exact h3
        clear h3
        go_wp2_with fail
        clear a0 a1 a2 b0 b1 b2
        refine (HSu.out _ H2.out.1).mono ?_
        rintro r w3 ⟨rfl, hb3⟩
        obtain ⟨w4, hw4⟩ : ∃ w4, w4 = w3.alloc (.cells #[.int .i64 0, .int .i64 0, .slice none 0 0] 43) := ⟨_, rfl⟩
        have H4 : Hid (Below w.heap.size w w4 ∧ CB w.heap.size qa na (.slice ao m ca) w4 ∧ CB (w.heap.size + 1) qb nb (.slice bo m' cb) w4 ∧ CB w3.heap.size 0 0 (.slice none 0 0) w4) := by
          have hbb := bel_up' hb3 (show Below w3.heap.size w3 w4 by rw [hw4]; exact (Below.refl _ _).alloc (Nat.le_refl _) _)
          exact ⟨bel_up' H2.out.1 hbb, H2.out.2.1.keep hbb, H2.out.2.2.keep hbb, by rw [hw4]; exact CB.new _ _ _ _⟩
        have hcb1 := H2.out.2.1.keep hb3
        obtain ⟨a0, a1, a2⟩ := hcb1
        have hcb2 := H2.out.2.2.keep hb3
        obtain ⟨b0, b1, b2⟩ := hcb2
        have hlt1 : w.heap.size < w3.heap.size := cell_lt a0
        have hlt2 : w.heap.size + 1 < w3.heap.size := cell_lt b0
        clear hb3
        go_wp2_with fail
        rw [← hw4]
        clear hw4 a0 a1 a2 b0 b1 b2 hlt1 hlt2
        refine (HMt.out _ H4.out.1).mono ?_
        rintro r w5 ⟨rfl, hb5⟩
        have hcb3 := H4.out.2.2.2.keep hb5
        obtain ⟨c0, c1, c2⟩ := hcb3
        have hlt3 : w3.heap.size < w5.heap.size := cell_lt c0
        have hlt4 : w3.heap.size < w5.heap.size + 1 := by omega
        have hlt5 : w3.heap.size < w5.heap.size + 1 + 1 := by omega
        have H5 : Hid (Below w.heap.size w w5) := bel_up' H4.out.1 hb5
        clear hb5
        go_wp2_with fail
        refine (lsame_err 3 HE.out 0 0 none 0 0 _).mono ?_
        rintro r w6 ⟨rfl, hb6⟩
        have h3b := three_boxes w5
        have H6 : Hid (Below w.heap.size w w6 ∧ CB w5.heap.size 0 0 (.slice none 0 0) w6 ∧ CB (w5.heap.size + 1 + 1) 0 0 (.slice none 0 0) w6) := ⟨bel_up' (bel_up' H5.out h3b.1) hb6, h3b.2.1.keep hb6, h3b.2.2.keep hb6⟩
        clear h3b hb6 c0 c1 c2 hlt3 hlt4 hlt5
        obtain ⟨c0, c1, c2⟩ := H6.out.2.1
        obtain ⟨d0, d1, d2⟩ := H6.out.2.2
        go_wp2_with fail
        refine (lsame_err 3 HE.out 0 0 none 0 0 _).mono ?_
        rintro r w7 ⟨rfl, hb7⟩
        have H7 : Hid (Below w.heap.size w w7) := bel_up' H6.out.1 hb7
        clear hb7
        go_wp2
        go_ret
        exact ⟨rfl, H7.out⟩
    · have hz2 : (eb == 0) = false := by rw [beq_eq_false_iff_ne]; exact h2
      have hE2 : E = eb := by have h := HE1.out; rw [if_pos h2] at h; exact h
      clear h2
      subst hE2
      go_wp2_with fail
      clear a0 a1 a2 b0 b1 b2
      refine (HSu.out _ H2.out.1).mono ?_
      rintro r w3 ⟨rfl, hb3⟩
      obtain ⟨w4, hw4⟩ : ∃ w4, w4 = w3.alloc (.cells #[.int .i64 0, .int .i64 0, .slice none 0 0] 43) := ⟨_, rfl⟩
      have H4 : Hid (Below w.heap.size w w4 ∧ CB w.heap.size qa na (.slice ao m ca) w4 ∧ CB (w.heap.size + 1) qb nb (.slice bo m' cb) w4 ∧ CB w3.heap.size 0 0 (.slice none 0 0) w4) := by
        have hbb := bel_up' hb3 (show Below w3.heap.size w3 w4 by rw [hw4]; exact (Below.refl _ _).alloc (Nat.le_refl _) _)
        exact ⟨bel_up' H2.out.1 hbb, H2.out.2.1.keep hbb, H2.out.2.2.keep hbb, by rw [hw4]; exact CB.new _ _ _ _⟩
      have hcb1 := H2.out.2.1.keep hb3
      obtain ⟨a0, a1, a2⟩ := hcb1
      have hcb2 := H2.out.2.2.keep hb3
      obtain ⟨b0, b1, b2⟩ := hcb2
      have hlt1 : w.heap.size < w3.heap.size := cell_lt a0
      have hlt2 : w.heap.size + 1 < w3.heap.size := cell_lt b0
      clear hb3
      go_wp2_with fail
      rw [← hw4]
      clear hw4 a0 a1 a2 b0 b1 b2 hlt1 hlt2
      refine (HMt.out _ H4.out.1).mono ?_
      rintro r w5 ⟨rfl, hb5⟩
      have hcb3 := H4.out.2.2.2.keep hb5
      obtain ⟨c0, c1, c2⟩ := hcb3
      have hlt3 : w3.heap.size < w5.heap.size := cell_lt c0
      have hlt4 : w3.heap.size < w5.heap.size + 1 := by omega
      have hlt5 : w3.heap.size < w5.heap.size + 1 + 1 := by omega
      have H5 : Hid (Below w.heap.size w w5) := bel_up' H4.out.1 hb5
      clear hb5
      go_wp2_with fail
      refine (lsame_err E HE.out 0 0 none 0 0 _).mono ?_
      rintro r w6 ⟨rfl, hb6⟩
      have h3b := three_boxes w5
      have H6 : Hid (Below w.heap.size w w6 ∧ CB w5.heap.size 0 0 (.slice none 0 0) w6 ∧ CB (w5.heap.size + 1 + 1) 0 0 (.slice none 0 0) w6) := ⟨bel_up' (bel_up' H5.out h3b.1) hb6, h3b.2.1.keep hb6, h3b.2.2.keep hb6⟩
      clear h3b hb6 c0 c1 c2 hlt3 hlt4 hlt5
      obtain ⟨c0, c1, c2⟩ := H6.out.2.1
      obtain ⟨d0, d1, d2⟩ := H6.out.2.2
      go_wp2_with fail
      refine (lsame_err E HE.out 0 0 none 0 0 _).mono ?_
      rintro r w7 ⟨rfl, hb7⟩
      have H7 : Hid (Below w.heap.size w w7) := bel_up' H6.out.1 hb7
      clear hb7
      go_wp2
      go_ret
      exact ⟨rfl, H7.out⟩
  · have hz1 : (ea == 0) = false := by rw [beq_eq_false_iff_ne]; exact h1
    have hE1 : E = ea := by have h := HEq.out; rw [cboth, if_pos h1] at h; exact h
    clear h1
    subst hE1
    have H2 : Hid (Below w.heap.size w w1 ∧ CB w.heap.size qa na (.slice ao m ca) w1 ∧ CB (w.heap.size + 1) qb nb (.slice bo m' cb) w1) := H1.out
    go_wp2_with fail
    clear a0 a1 a2 b0 b1 b2
    refine (HSu.out _ H2.out.1).mono ?_
    rintro r w3 ⟨rfl, hb3⟩
    obtain ⟨w4, hw4⟩ : ∃ w4, w4 = w3.alloc (.cells #[.int .i64 0, .int .i64 0, .slice none 0 0] 43) := ⟨_, rfl⟩
    have H4 : Hid (Below w.heap.size w w4 ∧ CB w.heap.size qa na (.slice ao m ca) w4 ∧ CB (w.heap.size + 1) qb nb (.slice bo m' cb) w4 ∧ CB w3.heap.size 0 0 (.slice none 0 0) w4) := by
      have hbb := bel_up' hb3 (show Below w3.heap.size w3 w4 by rw [hw4]; exact (Below.refl _ _).alloc (Nat.le_refl _) _)
      exact ⟨bel_up' H2.out.1 hbb, H2.out.2.1.keep hbb, H2.out.2.2.keep hbb, by rw [hw4]; exact CB.new _ _ _ _⟩
    have hcb1 := H2.out.2.1.keep hb3
    obtain ⟨a0, a1, a2⟩ := hcb1
    have hcb2 := H2.out.2.2.keep hb3
    obtain ⟨b0, b1, b2⟩ := hcb2
    have hlt1 : w.heap.size < w3.heap.size := cell_lt a0
    have hlt2 : w.heap.size + 1 < w3.heap.size := cell_lt b0
    clear hb3
    go_wp2_with fail
    rw [← hw4]
    clear hw4 a0 a1 a2 b0 b1 b2 hlt1 hlt2
    refine (HMt.out _ H4.out.1).mono ?_
    rintro r w5 ⟨rfl, hb5⟩
    have hcb3 := H4.out.2.2.2.keep hb5
    obtain ⟨c0, c1, c2⟩ := hcb3
    have hlt3 : w3.heap.size < w5.heap.size := cell_lt c0
    have hlt4 : w3.heap.size < w5.heap.size + 1 := by omega
    have hlt5 : w3.heap.size < w5.heap.size + 1 + 1 := by omega
    have H5 : Hid (Below w.heap.size w w5) := bel_up' H4.out.1 hb5
    clear hb5
    go_wp2_with fail
    refine (lsame_err E HE.out 0 0 none 0 0 _).mono ?_
    rintro r w6 ⟨rfl, hb6⟩
    have h3b := three_boxes w5
    have H6 : Hid (Below w.heap.size w w6 ∧ CB w5.heap.size 0 0 (.slice none 0 0) w6 ∧ CB (w5.heap.size + 1 + 1) 0 0 (.slice none 0 0) w6) := ⟨bel_up' (bel_up' H5.out h3b.1) hb6, h3b.2.1.keep hb6, h3b.2.2.keep hb6⟩
    clear h3b hb6 c0 c1 c2 hlt3 hlt4 hlt5
    obtain ⟨c0, c1, c2⟩ := H6.out.2.1
    obtain ⟨d0, d1, d2⟩ := H6.out.2.2
    go_wp2_with fail
    refine (lsame_err E HE.out 0 0 none 0 0 _).mono ?_
    rintro r w7 ⟨rfl, hb7⟩
    have H7 : Hid (Below w.heap.size w w7) := bel_up' H6.out.1 hb7
    clear hb7
    go_wp2
    go_ret
    exact ⟨rfl, H7.out⟩
end Go.Proofs.Ytbpeahhhkcljeaa
