/- Sums of codes and what both have: the program's checkBoth, Sum, Meet. -/
import Derived.Test.YtbpeahhhkcljeaaZI9
namespace Go.Proofs.Ytbpeahhhkcljeaa
open Go.RowKit Go.Sort

/-- What is said of two codes. -/
def cboth (ea eb qa qb na nb : Int) : Int := if ea ≠ 0 then ea else if eb ≠ 0 then eb else if qa ≠ qb ∨ na ≠ nb then 3 else 0
theorem two_boxes (qa na qb nb : Int) (va vb : Value) (w : World) : Below w.heap.size w ((w.alloc (.cells #[.int .i64 qa, .int .i64 na, va] 43)).alloc (.cells #[.int .i64 qb, .int .i64 nb, vb] 43)) ∧ CB w.heap.size qa na va ((w.alloc (.cells #[.int .i64 qa, .int .i64 na, va] 43)).alloc (.cells #[.int .i64 qb, .int .i64 nb, vb] 43)) ∧ CB (w.heap.size + 1) qb nb vb ((w.alloc (.cells #[.int .i64 qa, .int .i64 na, va] 43)).alloc (.cells #[.int .i64 qb, .int .i64 nb, vb] 43)) ∧ ((w.alloc (.cells #[.int .i64 qa, .int .i64 na, va] 43)).alloc (.cells #[.int .i64 qb, .int .i64 nb, vb] 43)).heap.size = w.heap.size + 2 := by
  have hs1 : (w.alloc (.cells #[.int .i64 qa, .int .i64 na, va] 43)).heap.size = w.heap.size + 1 := by simp
  have h1 := CB.new qa na va w
  have h2 := CB.new qb nb vb (w.alloc (.cells #[.int .i64 qa, .int .i64 na, va] 43))
  have b1 : Below (w.alloc (.cells #[.int .i64 qa, .int .i64 na, va] 43)).heap.size (w.alloc (.cells #[.int .i64 qa, .int .i64 na, va] 43)) ((w.alloc (.cells #[.int .i64 qa, .int .i64 na, va] 43)).alloc (.cells #[.int .i64 qb, .int .i64 nb, vb] 43)) := (Below.refl _ _).alloc (Nat.le_refl _) _
  rw [hs1] at h2
  exact ⟨bel_up' ((Below.refl _ _).alloc (Nat.le_refl _) _) b1, h1.keep b1, h2, by simp⟩

set_option maxHeartbeats 4000000 in
set_option maxRecDepth 100000 in
theorem checkBoth_any (ea eb qa qb na nb : Int) {ao bo : Option Addr} {m m' ca cb : Nat} {w : World}
    (hA : ∀ wx, Below w.heap.size w wx → Calls Try.prog 26 #[.agg #[.int .i64 qa, .int .i64 na, .slice ao m ca]] wx fun e w' => e = .returned (.int .i64 ea) ∧ Below wx.heap.size wx w')
    (hB : ∀ wx, Below w.heap.size w wx → Calls Try.prog 26 #[.agg #[.int .i64 qb, .int .i64 nb, .slice bo m' cb]] wx fun e w' => e = .returned (.int .i64 eb) ∧ Below wx.heap.size wx w') :
    Calls Try.prog 79 #[.agg #[.int .i64 qa, .int .i64 na, .slice ao m ca], .agg #[.int .i64 qb, .int .i64 nb, .slice bo m' cb]] w fun e w' => e = .returned (.int .i64 (cboth ea eb qa qb na nb)) ∧ Below w.heap.size w w' := by
  obtain ⟨w0, hw0⟩ : ∃ w0, w0 = (w.alloc (.cells #[.int .i64 qa, .int .i64 na, .slice ao m ca] 43)).alloc (.cells #[.int .i64 qb, .int .i64 nb, .slice bo m' cb] 43) := ⟨_, rfl⟩
  have HW : Hid (Below w.heap.size w w0 ∧ CB w.heap.size qa na (.slice ao m ca) w0 ∧ CB (w.heap.size + 1) qb nb (.slice bo m' cb) w0) := by
    obtain ⟨h1, h2, h3, _⟩ := two_boxes qa na qb nb (.slice ao m ca) (.slice bo m' cb) w
    rw [hw0]; exact ⟨h1, h2, h3⟩
  have HA : Hid (∀ wx, Below w.heap.size w wx → Calls Try.prog 26 #[.agg #[.int .i64 qa, .int .i64 na, .slice ao m ca]] wx fun e w' => e = .returned (.int .i64 ea) ∧ Below wx.heap.size wx w') := hA
  have HB : Hid (∀ wx, Below w.heap.size w wx → Calls Try.prog 26 #[.agg #[.int .i64 qb, .int .i64 nb, .slice bo m' cb]] wx fun e w' => e = .returned (.int .i64 eb) ∧ Below wx.heap.size wx w') := hB
  obtain ⟨E, hE⟩ : ∃ E, E = cboth ea eb qa qb na nb := ⟨_, rfl⟩
  rw [← hE]
  have HE : Hid (E = cboth ea eb qa qb na nb) := hE
  clear hA hB hE
  go_enter Try.func79, Try.ntmps79
  go_wp2_with fail
  rw [← hw0]
  clear hw0
  refine (HA.out _ HW.out.1).mono ?_
  rintro e w1 ⟨rfl, hb1⟩
  have H1 : Hid (Below w.heap.size w w1 ∧ CB w.heap.size qa na (.slice ao m ca) w1 ∧ CB (w.heap.size + 1) qb nb (.slice bo m' cb) w1) := ⟨bel_up' HW.out.1 hb1, HW.out.2.1.keep hb1, HW.out.2.2.keep hb1⟩
  clear hb1
  have hcb1 := H1.out.2.2
  obtain ⟨b0, b1, b2⟩ := hcb1
  by_cases h1 : ea = 0
  · have hz1 : (ea != 0) = false := by rw [h1]; rfl
    have HE1 : Hid (E = if eb ≠ 0 then eb else if qa ≠ qb ∨ na ≠ nb then 3 else 0) := by show E = _; rw [HE.out, cboth, if_neg (fun h => h h1)]
    clear h1
    go_wp2_with fail
    refine (HB.out _ H1.out.1).mono ?_
    rintro e w2 ⟨rfl, hb2⟩
    have H2 : Hid (Below w.heap.size w w2 ∧ CB w.heap.size qa na (.slice ao m ca) w2 ∧ CB (w.heap.size + 1) qb nb (.slice bo m' cb) w2) := ⟨bel_up' H1.out.1 hb2, H1.out.2.1.keep hb2, H1.out.2.2.keep hb2⟩
    clear hb2 b0 b1 b2
    have hcb1 := H2.out.2.1
    obtain ⟨a0, a1, a2⟩ := hcb1
    have hcb2 := H2.out.2.2
    obtain ⟨b0, b1, b2⟩ := hcb2
    by_cases h2 : eb = 0
    · have hz2 : (eb != 0) = false := by rw [h2]; rfl
      have HE2 : Hid (E = if qa ≠ qb ∨ na ≠ nb then 3 else 0) := by show E = _; rw [HE1.out, if_neg (fun h => h h2)]
      clear h2
      by_cases h3 : qa = qb
      · have hz3 : (qa != qb) = false := by rw [bne_eq_false_iff_eq]; exact h3
        by_cases h4 : na = nb
        · have hz4 : (na != nb) = false := by rw [bne_eq_false_iff_eq]; exact h4
          have HE3 : Hid (E = 0) := by show E = 0; rw [HE2.out, if_neg (fun h => h.elim (fun x => x h3) (fun x => x h4))]
          clear h3 h4
          go_wp2
          go_ret
          exact ⟨by rw [HE3.out]; rfl, H2.out.1⟩
        · have hz4 : (na != nb) = true := by rw [bne_iff_ne]; exact h4
          have HE3 : Hid (E = 3) := by show E = 3; rw [HE2.out, if_pos (Or.inr h4)]
          clear h3 h4
          go_wp2
          go_ret
          exact ⟨by rw [HE3.out]; rfl, H2.out.1⟩
      · have hz3 : (qa != qb) = true := by rw [bne_iff_ne]; exact h3
        have HE3 : Hid (E = 3) := by show E = 3; rw [HE2.out, if_pos (Or.inl h3)]
        clear h3
        go_wp2
        go_ret
        exact ⟨by rw [HE3.out]; rfl, H2.out.1⟩
    · have hz2 : (eb != 0) = true := by rw [bne_iff_ne]; exact h2
      have HE2 : Hid (E = eb) := by show E = eb; rw [HE1.out, if_pos h2]
      clear h2
      go_wp2
      go_ret
      exact ⟨by rw [HE2.out]; rfl, H2.out.1⟩
  · have hz1 : (ea != 0) = true := by rw [bne_iff_ne]; exact h1
    have HE1 : Hid (E = ea) := by show E = ea; rw [HE.out, cboth, if_pos h1]
    clear h1
    go_wp2
    go_ret
    exact ⟨by rw [HE1.out]; rfl, H1.out.1⟩

set_option maxHeartbeats 4000000 in
set_option maxRecDepth 100000 in
theorem cSum_err (e : Int) (he : e ≠ 0) (qa qb na nb : Int) {ao bo : Option Addr} {m m' ca cb : Nat} {w : World}
    (hC : ∀ wx, Below w.heap.size w wx → Calls Try.prog 79 #[.agg #[.int .i64 qa, .int .i64 na, .slice ao m ca], .agg #[.int .i64 qb, .int .i64 nb, .slice bo m' cb]] wx fun x w' => x = .returned (.int .i64 e) ∧ Below wx.heap.size wx w') :
    Calls Try.prog 34 #[.agg #[.int .i64 qa, .int .i64 na, .slice ao m ca], .agg #[.int .i64 qb, .int .i64 nb, .slice bo m' cb]] w fun x w' => x = .returned (.tuple #[.agg #[.int .i64 0, .int .i64 0, .slice none 0 0], .int .i64 e]) ∧ Below w.heap.size w w' := by
  have HC : Hid (∀ wx, Below w.heap.size w wx → Calls Try.prog 79 #[.agg #[.int .i64 qa, .int .i64 na, .slice ao m ca], .agg #[.int .i64 qb, .int .i64 nb, .slice bo m' cb]] wx fun x w' => x = .returned (.int .i64 e) ∧ Below wx.heap.size wx w') := hC
  have hz : (e != 0) = true := by rw [bne_iff_ne]; exact he
  clear hC he
  obtain ⟨w0, hw0⟩ : ∃ w0, w0 = ((w.alloc (.cells #[.int .i64 qa, .int .i64 na, .slice ao m ca] 43)).alloc (.cells #[.int .i64 qb, .int .i64 nb, .slice bo m' cb] 43)).alloc (.cells #[.int .i64 0, .int .i64 0, .slice none 0 0] 43) := ⟨_, rfl⟩
  have HW : Hid (Below w.heap.size w w0 ∧ RB (w.heap.size + 1 + 1) w0) := by
    obtain ⟨h1, _, _, h4⟩ := two_boxes qa na qb nb (.slice ao m ca) (.slice bo m' cb) w
    have h5 := RB.new (.int .i64 0) (.int .i64 0) (.slice none 0 0) ((w.alloc (.cells #[.int .i64 qa, .int .i64 na, .slice ao m ca] 43)).alloc (.cells #[.int .i64 qb, .int .i64 nb, .slice bo m' cb] 43))
    rw [h4] at h5
    rw [hw0]; exact ⟨bel_up' h1 ((Below.refl _ _).alloc (Nat.le_refl _) _), h5⟩
  go_enter Try.func34, Try.ntmps34
  go_wp2_with fail
  rw [← hw0]
  clear hw0
  refine (HC.out _ HW.out.1).mono ?_
  rintro x w1 ⟨rfl, hb1⟩
  have H1 : Hid (Below w.heap.size w w1 ∧ RB (w.heap.size + 1 + 1) w1) := ⟨bel_up' HW.out.1 hb1, HW.out.2.keep hb1⟩
  clear hb1
  obtain ⟨⟨x0, c0⟩, ⟨x1, c1⟩, ⟨x2, c2⟩, f0, f1, f2⟩ := H1.out.2
  go_wp2
  obtain ⟨w2, hw2⟩ : ∃ w2, w2 = laid w1 (w.heap.size + 1 + 1) 0 0 (.slice none 0 0) := ⟨_, rfl⟩
  have H2 : Hid (CB (w.heap.size + 1 + 1) 0 0 (.slice none 0 0) w2 ∧ Below w.heap.size w w2) := by
    rw [hw2]; exact ⟨laid_cb H1.out.2 _ _ _, laid_below H1.out.1 (by omega) _ _ _⟩
  unfold laid at hw2
  rw [← hw2]
  clear hw2 c0 c1 c2 f0 f1 f2
  obtain ⟨c0, c1, c2⟩ := H2.out.1
  refine bodyPost_ret (v := .tuple #[.agg #[.int .i64 0, .int .i64 0, .slice none 0 0], .int .i64 e]) (by simp [results, Try.results34, go_sem, c0, c1, c2]) rfl ?_
  exact ⟨rfl, H2.out.2⟩
end Go.Proofs.Ytbpeahhhkcljeaa
