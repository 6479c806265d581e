/- Sums of codes and what both have: the program's checkBoth, Sum, Meet. -/
import Derived.Test.YtmbglikcanchbajZI9
namespace Go.Proofs.Ytmbglikcanchbaj
open Go.RowKit Go.Sort

/-- What is said of two codes. -/
def cboth (ea eb qa qb na nb : Int) : Int := if ea ≠ 0 then ea else if eb ≠ 0 then eb else if qa ≠ qb ∨ na ≠ nb then 3 else 0
theorem two_boxes (qa na qb nb : Int) (va vb : Value) (w : World) : Below w.heap.size w ((w.alloc (.cells #[.int .i64 qa, .int .i64 na, va] 25)).alloc (.cells #[.int .i64 qb, .int .i64 nb, vb] 25)) ∧ CB w.heap.size qa na va ((w.alloc (.cells #[.int .i64 qa, .int .i64 na, va] 25)).alloc (.cells #[.int .i64 qb, .int .i64 nb, vb] 25)) ∧ CB (w.heap.size + 1) qb nb vb ((w.alloc (.cells #[.int .i64 qa, .int .i64 na, va] 25)).alloc (.cells #[.int .i64 qb, .int .i64 nb, vb] 25)) ∧ ((w.alloc (.cells #[.int .i64 qa, .int .i64 na, va] 25)).alloc (.cells #[.int .i64 qb, .int .i64 nb, vb] 25)).heap.size = w.heap.size + 2 := by
  have hs1 : (w.alloc (.cells #[.int .i64 qa, .int .i64 na, va] 25)).heap.size = w.heap.size + 1 := by simp
  have h1 := CB.new qa na va w
  have h2 := CB.new qb nb vb (w.alloc (.cells #[.int .i64 qa, .int .i64 na, va] 25))
  have b1 : Below (w.alloc (.cells #[.int .i64 qa, .int .i64 na, va] 25)).heap.size (w.alloc (.cells #[.int .i64 qa, .int .i64 na, va] 25)) ((w.alloc (.cells #[.int .i64 qa, .int .i64 na, va] 25)).alloc (.cells #[.int .i64 qb, .int .i64 nb, vb] 25)) := (Below.refl _ _).alloc (Nat.le_refl _) _
  rw [hs1] at h2
  exact ⟨bel_up' ((Below.refl _ _).alloc (Nat.le_refl _) _) b1, h1.keep b1, h2, by simp⟩

set_option maxHeartbeats 4000000 in
set_option maxRecDepth 100000 in
theorem checkBoth_any (ea eb qa qb na nb : Int) {ao bo : Option Addr} {m m' ca cb : Nat} {w : World}
    (hA : ∀ wx, Below w.heap.size w wx → Calls Try.prog 33 #[.agg #[.int .i64 qa, .int .i64 na, .slice ao m ca]] wx fun e w' => e = .returned (.int .i64 ea) ∧ Below wx.heap.size wx w')
    (hB : ∀ wx, Below w.heap.size w wx → Calls Try.prog 33 #[.agg #[.int .i64 qb, .int .i64 nb, .slice bo m' cb]] wx fun e w' => e = .returned (.int .i64 eb) ∧ Below wx.heap.size wx w') :
    Calls Try.prog 46 #[.agg #[.int .i64 qa, .int .i64 na, .slice ao m ca], .agg #[.int .i64 qb, .int .i64 nb, .slice bo m' cb]] w fun e w' => e = .returned (.int .i64 (cboth ea eb qa qb na nb)) ∧ Below w.heap.size w w' := by
  obtain ⟨w0, hw0⟩ : ∃ w0, w0 = (w.alloc (.cells #[.int .i64 qa, .int .i64 na, .slice ao m ca] 25)).alloc (.cells #[.int .i64 qb, .int .i64 nb, .slice bo m' cb] 25) := ⟨_, rfl⟩
  have HW : Hid (Below w.heap.size w w0 ∧ CB w.heap.size qa na (.slice ao m ca) w0 ∧ CB (w.heap.size + 1) qb nb (.slice bo m' cb) w0) := by
    obtain ⟨h1, h2, h3, _⟩ := two_boxes qa na qb nb (.slice ao m ca) (.slice bo m' cb) w
    rw [hw0]; exact ⟨h1, h2, h3⟩
  have HA : Hid (∀ wx, Below w.heap.size w wx → Calls Try.prog 33 #[.agg #[.int .i64 qa, .int .i64 na, .slice ao m ca]] wx fun e w' => e = .returned (.int .i64 ea) ∧ Below wx.heap.size wx w') := hA
  have HB : Hid (∀ wx, Below w.heap.size w wx → Calls Try.prog 33 #[.agg #[.int .i64 qb, .int .i64 nb, .slice bo m' cb]] wx fun e w' => e = .returned (.int .i64 eb) ∧ Below wx.heap.size wx w') := hB
  obtain ⟨E, hE⟩ : ∃ E, E = cboth ea eb qa qb na nb := ⟨_, rfl⟩
  rw [← hE]
  have HE : Hid (E = cboth ea eb qa qb na nb) := hE
  clear hA hB hE
  go_enter Try.func46, Try.ntmps46
  go_wp2_with fail
  rw [← hw0]
  clear hw0
  refine (HA.out _ HW.out.1).mono ?_
  rintro e w1 ⟨rfl, hb1⟩
  have H1 : Hid (Below w.heap.size w w1 ∧ CB w.heap.size qa na (.slice ao m ca) w1 ∧ CB (w.heap.size + 1) qb nb (.slice bo m' cb) w1) := ⟨bel_up' HW.out.1 hb1, HW.out.2.1.keep hb1, HW.out.2.2.keep hb1⟩
  clear hb1
  have hcb1 := H1.out.2.2
  obtain ⟨b0, b1, b2⟩ := hcb1
  by_cases h1 : ea = 0
  · have hz1 : (ea != 0) = false := by rw [h1]; rfl
    have HE1 : Hid (E = if eb ≠ 0 then eb else if qa ≠ qb ∨ na ≠ nb then 3 else 0) := by show E = _; rw [HE.out, cboth, if_neg (fun h => h h1)]
    clear h1
    go_wp2_with fail
    refine (HB.out _ H1.out.1).mono ?_
    rintro e w2 ⟨rfl, hb2⟩
    have H2 : Hid (Below w.heap.size w w2 ∧ CB w.heap.size qa na (.slice ao m ca) w2 ∧ CB (w.heap.size + 1) qb nb (.slice bo m' cb) w2) := ⟨bel_up' H1.out.1 hb2, H1.out.2.1.keep hb2, H1.out.2.2.keep hb2⟩
    clear hb2 b0 b1 b2
    have hcb1 := H2.out.2.1
    obtain ⟨a0, a1, a2⟩ := hcb1
    have hcb2 := H2.out.2.2
    obtain ⟨b0, b1, b2⟩ := hcb2
    by_cases h2 : eb = 0
    · have hz2 : (eb != 0) = false := by rw [h2]; rfl
      have HE2 : Hid (E = if qa ≠ qb ∨ na ≠ nb then 3 else 0) := by show E = _; rw [HE1.out, if_neg (fun h => h h2)]
      clear h2
      by_cases h3 : qa = qb
      · have hz3 : (qa != qb) = false := by rw [bne_eq_false_iff_eq]; exact h3
        by_cases h4 : na = nb
        · have hz4 : (na != nb) = false := by rw [bne_eq_false_iff_eq]; exact h4
          have HE3 : Hid (E = 0) := by show E = 0; rw [HE2.out, if_neg (fun h => h.elim (fun x => x h3) (fun x => x h4))]
          clear h3 h4
          go_wp2
          go_ret
          exact ⟨by rw [HE3.out]; rfl, H2.out.1⟩
        · have hz4 : (na != nb) = true := by rw [bne_iff_ne]; exact h4
          have HE3 : Hid (E = 3) := by show E = 3; rw [HE2.out, if_pos (Or.inr h4)]
          clear h3 h4
          go_wp2
          go_ret
          exact ⟨by rw [HE3.out]; rfl, H2.out.1⟩
      · have hz3 : (qa != qb) = true := by rw [bne_iff_ne]; exact h3
        have HE3 : Hid (E = 3) := by show E = 3; rw [HE2.out, if_pos (Or.inl h3)]
        clear h3
        go_wp2
        go_ret
        exact ⟨by rw [HE3.out]; rfl, H2.out.1⟩
    · have hz2 : (eb != 0) = true := by rw [bne_iff_ne]; exact h2
      have HE2 : Hid (E = eb) := by show E = eb; rw [HE1.out, if_pos h2]
      clear h2
      go_wp2
      go_ret
      exact ⟨by rw [HE2.out]; rfl, H2.out.1⟩
  · have hz1 : (ea != 0) = true := by rw [bne_iff_ne]; exact h1
    have HE1 : Hid (E = ea) := by show E = ea; rw [HE.out, cboth, if_pos h1]
    clear h1
    go_wp2
    go_ret
    exact ⟨by rw [HE1.out]; rfl, H1.out.1⟩

end Go.Proofs.Ytmbglikcanchbaj
