/- Texts of ours, one behind the other: I10 I11 I12 I13 I14 I15 I16. -/
import Derived.Test.YtbpeahhhkcljeaaZI9
import Derived.Test.YtbpeahhhkcljeaaZW11
import Derived.Test.YtbpeahhhkcljeaaZS4
import Derived.Test.YtbpeahhhkcljeaaZX18
/- Sums of codes and what both have: the program's checkBoth, Sum, Meet. -/
namespace Go.Proofs.Ytbpeahhhkcljeaa
open Go.RowKit Go.Sort

/-- What is said of two codes. -/
def cboth (ea eb qa qb na nb : Int) : Int := if ea ≠ 0 then ea else if eb ≠ 0 then eb else if qa ≠ qb ∨ na ≠ nb then 3 else 0
theorem two_boxes (qa na qb nb : Int) (va vb : Value) (w : World) : Below w.heap.size w ((w.alloc (.cells #[.int .i64 qa, .int .i64 na, va] 43)).alloc (.cells #[.int .i64 qb, .int .i64 nb, vb] 43)) ∧ CB w.heap.size qa na va ((w.alloc (.cells #[.int .i64 qa, .int .i64 na, va] 43)).alloc (.cells #[.int .i64 qb, .int .i64 nb, vb] 43)) ∧ CB (w.heap.size + 1) qb nb vb ((w.alloc (.cells #[.int .i64 qa, .int .i64 na, va] 43)).alloc (.cells #[.int .i64 qb, .int .i64 nb, vb] 43)) ∧ ((w.alloc (.cells #[.int .i64 qa, .int .i64 na, va] 43)).alloc (.cells #[.int .i64 qb, .int .i64 nb, vb] 43)).heap.size = w.heap.size + 2 := by
  have hs1 : (w.alloc (.cells #[.int .i64 qa, .int .i64 na, va] 43)).heap.size = w.heap.size + 1 := by simp
  have h1 := CB.new qa na va w
  have h2 := CB.new qb nb vb (w.alloc (.cells #[.int .i64 qa, .int .i64 na, va] 43))
  have b1 : Below (w.alloc (.cells #[.int .i64 qa, .int .i64 na, va] 43)).heap.size (w.alloc (.cells #[.int .i64 qa, .int .i64 na, va] 43)) ((w.alloc (.cells #[.int .i64 qa, .int .i64 na, va] 43)).alloc (.cells #[.int .i64 qb, .int .i64 nb, vb] 43)) := (Below.refl _ _).alloc (Nat.le_refl _) _
  rw [hs1] at h2
  exact ⟨bel_up' ((Below.refl _ _).alloc (Nat.le_refl _) _) b1, h1.keep b1, h2, by simp⟩

set_option maxHeartbeats 4000000 in
set_option maxRecDepth 100000 in
theorem checkBoth_any (ea eb qa qb na nb : Int) {ao bo : Option Addr} {m m' ca cb : Nat} {w : World}
    (hA : ∀ wx, Below w.heap.size w wx → Calls Try.prog 26 #[.agg #[.int .i64 qa, .int .i64 na, .slice ao m ca]] wx fun e w' => e = .returned (.int .i64 ea) ∧ Below wx.heap.size wx w')
    (hB : ∀ wx, Below w.heap.size w wx → Calls Try.prog 26 #[.agg #[.int .i64 qb, .int .i64 nb, .slice bo m' cb]] wx fun e w' => e = .returned (.int .i64 eb) ∧ Below wx.heap.size wx w') :
    Calls Try.prog 79 #[.agg #[.int .i64 qa, .int .i64 na, .slice ao m ca], .agg #[.int .i64 qb, .int .i64 nb, .slice bo m' cb]] w fun e w' => e = .returned (.int .i64 (cboth ea eb qa qb na nb)) ∧ Below w.heap.size w w' := by
  obtain ⟨w0, hw0⟩ : ∃ w0, w0 = (w.alloc (.cells #[.int .i64 qa, .int .i64 na, .slice ao m ca] 43)).alloc (.cells #[.int .i64 qb, .int .i64 nb, .slice bo m' cb] 43) := ⟨_, rfl⟩
  have HW : Hid (Below w.heap.size w w0 ∧ CB w.heap.size qa na (.slice ao m ca) w0 ∧ CB (w.heap.size + 1) qb nb (.slice bo m' cb) w0) := by
    obtain ⟨h1, h2, h3, _⟩ := two_boxes qa na qb nb (.slice ao m ca) (.slice bo m' cb) w
    rw [hw0]; exact ⟨h1, h2, h3⟩
  have HA : Hid (∀ wx, Below w.heap.size w wx → Calls Try.prog 26 #[.agg #[.int .i64 qa, .int .i64 na, .slice ao m ca]] wx fun e w' => e = .returned (.int .i64 ea) ∧ Below wx.heap.size wx w') := hA
  have HB : Hid (∀ wx, Below w.heap.size w wx → Calls Try.prog 26 #[.agg #[.int .i64 qb, .int .i64 nb, .slice bo m' cb]] wx fun e w' => e = .returned (.int .i64 eb) ∧ Below wx.heap.size wx w') := hB
  obtain ⟨E, hE⟩ : ∃ E, E = cboth ea eb qa qb na nb := ⟨_, rfl⟩
  rw [← hE]
  have HE : Hid (E = cboth ea eb qa qb na nb) := hE
  clear hA hB hE
  go_enter Try.func79, Try.ntmps79
  go_wp2_with fail
  rw [← hw0]
  clear hw0
  refine (HA.out _ HW.out.1).mono ?_
  rintro e w1 ⟨rfl, hb1⟩
  have H1 : Hid (Below w.heap.size w w1 ∧ CB w.heap.size qa na (.slice ao m ca) w1 ∧ CB (w.heap.size + 1) qb nb (.slice bo m' cb) w1) := ⟨bel_up' HW.out.1 hb1, HW.out.2.1.keep hb1, HW.out.2.2.keep hb1⟩
  clear hb1
  have hcb1 := H1.out.2.2
  obtain ⟨b0, b1, b2⟩ := hcb1
  by_cases h1 : ea = 0
  · have hz1 : (ea != 0) = false := by rw [h1]; rfl
    have HE1 : Hid (E = if eb ≠ 0 then eb else if qa ≠ qb ∨ na ≠ nb then 3 else 0) := by show E = _; rw [HE.out, cboth, if_neg (fun h => h h1)]
    clear h1
    go_wp2_with fail
    refine (HB.out _ H1.out.1).mono ?_
    rintro e w2 ⟨rfl, hb2⟩
    have H2 : Hid (Below w.heap.size w w2 ∧ CB w.heap.size qa na (.slice ao m ca) w2 ∧ CB (w.heap.size + 1) qb nb (.slice bo m' cb) w2) := ⟨bel_up' H1.out.1 hb2, H1.out.2.1.keep hb2, H1.out.2.2.keep hb2⟩
    clear hb2 b0 b1 b2
    have hcb1 := H2.out.2.1
    obtain ⟨a0, a1, a2⟩ := hcb1
    have hcb2 := H2.out.2.2
    obtain ⟨b0, b1, b2⟩ := hcb2
    by_cases h2 : eb = 0
    · have hz2 : (eb != 0) = false := by rw [h2]; rfl
      have HE2 : Hid (E = if qa ≠ qb ∨ na ≠ nb then 3 else 0) := by show E = _; rw [HE1.out, if_neg (fun h => h h2)]
      clear h2
      by_cases h3 : qa = qb
      · have hz3 : (qa != qb) = false := by rw [bne_eq_false_iff_eq]; exact h3
        by_cases h4 : na = nb
        · have hz4 : (na != nb) = false := by rw [bne_eq_false_iff_eq]; exact h4
          have HE3 : Hid (E = 0) := by show E = 0; rw [HE2.out, if_neg (fun h => h.elim (fun x => x h3) (fun x => x h4))]
          clear h3 h4
          go_wp2
          go_ret
          exact ⟨by rw [HE3.out]; rfl, H2.out.1⟩
        · have hz4 : (na != nb) = true := by rw [bne_iff_ne]; exact h4
          have HE3 : Hid (E = 3) := by show E = 3; rw [HE2.out, if_pos (Or.inr h4)]
          clear h3 h4
          go_wp2
          go_ret
          exact ⟨by rw [HE3.out]; rfl, H2.out.1⟩
      · have hz3 : (qa != qb) = true := by rw [bne_iff_ne]; exact h3
        have HE3 : Hid (E = 3) := by show E = 3; rw [HE2.out, if_pos (Or.inl h3)]
        clear h3
        go_wp2
        go_ret
        exact ⟨by rw [HE3.out]; rfl, H2.out.1⟩
    · have hz2 : (eb != 0) = true := by rw [bne_iff_ne]; exact h2
      have HE2 : Hid (E = eb) := by show E = eb; rw [HE1.out, if_pos h2]
      clear h2
      go_wp2
      go_ret
      exact ⟨by rw [HE2.out]; rfl, H2.out.1⟩
  · have hz1 : (ea != 0) = true := by rw [bne_iff_ne]; exact h1
    have HE1 : Hid (E = ea) := by show E = ea; rw [HE.out, cboth, if_pos h1]
    clear h1
    go_wp2
    go_ret
    exact ⟨by rw [HE1.out]; rfl, H1.out.1⟩

end Go.Proofs.Ytbpeahhhkcljeaa

/- Sums of codes and what both have: the program's Sum and Meet of codes that may be. -/
namespace Go.Proofs.Ytbpeahhhkcljeaa
open Go.RowKit Go.Sort

set_option maxHeartbeats 4000000 in
set_option maxRecDepth 100000 in
theorem cSum_ok {D : FD} (hD : D ∈ fieldsL) {ao bo : Option Addr} {m m' n ca cb : Nat} {A B : Nat → Option Addr} {N C N' C' : Nat → Nat} {Z Z' : Nat → Nat → Int} {w : World} (ha : CdZ D ao m n A N C Z w) (hb : CdZ D bo m' n B N' C' Z' w)
    (hC : ∀ wx, Below w.heap.size w wx → Calls Try.prog 79 #[.agg #[.int .i64 D.q, .int .i64 (n : Nat), .slice ao m ca], .agg #[.int .i64 D.q, .int .i64 (n : Nat), .slice bo m' cb]] wx fun x w' => x = .returned (.int .i64 0) ∧ Below wx.heap.size wx w') :
    Calls Try.prog 34 #[.agg #[.int .i64 D.q, .int .i64 (n : Nat), .slice ao m ca], .agg #[.int .i64 D.q, .int .i64 (n : Nat), .slice bo m' cb]] w fun x w' => ∃ k R ro rc, x = .returned (.tuple #[.agg #[.int .i64 D.q, .int .i64 (n : Nat), .slice ro k rc], .int .i64 0]) ∧ MV w.heap.size (.slice ro k rc) k n R w' ∧ Red D n (m + m') (apr m (mzc N Z) (mzc N' Z')) k R ∧ Below w.heap.size w w' := by
  obtain ⟨w0, hw0⟩ : ∃ w0, w0 = ((w.alloc (.cells #[.int .i64 D.q, .int .i64 (n : Nat), .slice ao m ca] 43)).alloc (.cells #[.int .i64 D.q, .int .i64 (n : Nat), .slice bo m' cb] 43)).alloc (.cells #[.int .i64 0, .int .i64 0, .slice none 0 0] 43) := ⟨_, rfl⟩
  have HW : Hid (Below w.heap.size w w0 ∧ RB (w.heap.size + 1 + 1) w0 ∧ CB w.heap.size D.q n (.slice ao m ca) w0 ∧ CB (w.heap.size + 1) D.q n (.slice bo m' cb) w0 ∧ w0.heap.size = w.heap.size + 3) := by
    obtain ⟨h1, h2, h3, h4⟩ := two_boxes D.q n D.q n (.slice ao m ca) (.slice bo m' cb) w
    have h5 := RB.new (.int .i64 0) (.int .i64 0) (.slice none 0 0) ((w.alloc (.cells #[.int .i64 D.q, .int .i64 (n : Nat), .slice ao m ca] 43)).alloc (.cells #[.int .i64 D.q, .int .i64 (n : Nat), .slice bo m' cb] 43))
    have hbl : Below ((w.alloc (.cells #[.int .i64 D.q, .int .i64 (n : Nat), .slice ao m ca] 43)).alloc (.cells #[.int .i64 D.q, .int .i64 (n : Nat), .slice bo m' cb] 43)).heap.size ((w.alloc (.cells #[.int .i64 D.q, .int .i64 (n : Nat), .slice ao m ca] 43)).alloc (.cells #[.int .i64 D.q, .int .i64 (n : Nat), .slice bo m' cb] 43)) (((w.alloc (.cells #[.int .i64 D.q, .int .i64 (n : Nat), .slice ao m ca] 43)).alloc (.cells #[.int .i64 D.q, .int .i64 (n : Nat), .slice bo m' cb] 43)).alloc (.cells #[.int .i64 0, .int .i64 0, .slice none 0 0] 43)) := (Below.refl _ _).alloc (Nat.le_refl _) _
    rw [h4] at h5
    rw [hw0]; exact ⟨bel_up' h1 hbl, h5, h2.keep hbl, h3.keep hbl, by simp⟩
  have HA : Hid (D ∈ fieldsL ∧ CdZ D ao m n A N C Z w ∧ CdZ D bo m' n B N' C' Z' w) := ⟨hD, ha, hb⟩
  have HC : Hid (∀ wx, Below w.heap.size w wx → Calls Try.prog 79 #[.agg #[.int .i64 D.q, .int .i64 (n : Nat), .slice ao m ca], .agg #[.int .i64 D.q, .int .i64 (n : Nat), .slice bo m' cb]] wx fun x w' => x = .returned (.int .i64 0) ∧ Below wx.heap.size wx w') := hC
  have hn1 := ha.n1
  have hn := ha.n64
  clear hD ha hb hC
  go_enter Try.func34, Try.ntmps34
  go_wp2_with fail
  rw [← hw0]
  clear hw0
  refine (HC.out _ HW.out.1).mono ?_
  rintro x w1 ⟨rfl, hb1⟩
  have H1 : Hid (Below w.heap.size w w1 ∧ RB (w.heap.size + 1 + 1) w1 ∧ CB w.heap.size D.q n (.slice ao m ca) w1 ∧ CB (w.heap.size + 1) D.q n (.slice bo m' cb) w1 ∧ w.heap.size + 3 ≤ w1.heap.size) := ⟨bel_up' HW.out.1 hb1, HW.out.2.1.keep hb1, HW.out.2.2.1.keep hb1, HW.out.2.2.2.1.keep hb1, by have := hb1.size; have := HW.out.2.2.2.2; omega⟩
  clear hb1
  have hcb1 := H1.out.2.2.1
  obtain ⟨a0, a1, a2⟩ := hcb1
  have hcb2 := H1.out.2.2.2.1
  obtain ⟨b0, b1, b2⟩ := hcb2
  go_wp2_with fail
  refine (csum_any HA.out.1 (HA.out.2.1.below H1.out.1) (HA.out.2.2.below H1.out.1)).mono ?_
  rintro x w2 ⟨k, R, ro, rc, rfl, hmv, hred, hb2⟩
  have H2 : Hid (MV w1.heap.size (.slice ro k rc) k n R w2 ∧ Red D n (m + m') (apr m (mzc N Z) (mzc N' Z')) k R ∧ Below w.heap.size w w2 ∧ RB (w.heap.size + 1 + 1) w2) := ⟨hmv, hred, bel_up' H1.out.1 hb2, H1.out.2.1.keep hb2⟩
  clear hmv hred hb2 a0 a1 a2 b0 b1 b2
  obtain ⟨⟨x0, c0⟩, ⟨x1, c1⟩, ⟨x2, c2⟩, f0, f1, f2⟩ := H2.out.2.2.2
  go_wp2
  obtain ⟨w3, hw3⟩ : ∃ w3, w3 = laid w2 (w.heap.size + 1 + 1) D.q n (.slice ro k rc) := ⟨_, rfl⟩
  have H3 : Hid (CB (w.heap.size + 1 + 1) D.q n (.slice ro k rc) w3 ∧ MV w.heap.size (.slice ro k rc) k n R w3 ∧ Below w.heap.size w w3) := by
    have := H1.out.2.2.2.2
    rw [hw3]; exact ⟨laid_cb H2.out.2.2.2 _ _ _, (laid_mv H2.out.1 (by omega) _ _ _).mono (by omega), laid_below H2.out.2.2.1 (by omega) _ _ _⟩
  unfold laid at hw3
  rw [← hw3]
  clear hw3 c0 c1 c2 f0 f1 f2
  obtain ⟨c0, c1, c2⟩ := H3.out.1
  refine bodyPost_ret (v := .tuple #[.agg #[.int .i64 D.q, .int .i64 (n : Nat), .slice ro k rc], .int .i64 0]) (by simp [results, Try.results34, go_sem, c0, c1, c2]) rfl ?_
  exact ⟨_, R, _, _, rfl, H3.out.2.1, H2.out.2.1, H3.out.2.2⟩
theorem Dul.of_spn {D : FD} {n m m' k : Nat} {M M' R : Nat → Nat → Nat} (h : Dul D n m M k R) (hs : ∀ v, Spn D (RowsOf m M) v ↔ Spn D (RowsOf m' M') v) : Dul D n m' M' k R := by
  obtain ⟨a, A, q, q2, h1, h2, h3⟩ := h
  exact ⟨a, A, q, q2, h1, fun v => (h2 v).trans (hs v), h3⟩
end Go.Proofs.Ytbpeahhhkcljeaa

/- Codes: one form and the dual, of the reference (Made, DualOf). -/
namespace Go.Proofs.Ytbpeahhhkcljeaa
open Go.RowKit Go.Sort

/-- Block b holds a code's cells. -/
def RBt (b : Nat) (w : World) : Prop := ∃ cs, w.heap[b]? = some (.cells cs 43 (0, 0))
theorem RBt.new (cs : Array Value) (w : World) : RBt w.heap.size (w.alloc (.cells cs 43)) := ⟨cs, two_new _⟩
theorem RBt.keep {b : Nat} {w w' : World} (h : RBt b w) (hb : Below w.heap.size w w') : RBt b w' := by
  obtain ⟨cs, h⟩ := h
  exact ⟨cs, by rw [hb.block b (lt_of_block h)]; exact h⟩
theorem OwnV.same {base : Nat} {v : Value} {l : List Value} {w w' : World} (h : OwnV base v l w) (hb : ∀ g, v.ownBlock = some g → w'.heap[g]? = w.heap[g]?) : OwnV base v l w' := by
  obtain ⟨h1, h2⟩ := h
  refine ⟨h1, ?_⟩
  rcases h2 with h2 | ⟨g, cap, cur, hv, hg, hh, r⟩
  · exact Or.inl h2
  · exact Or.inr ⟨g, cap, cur, hv, hg, by rw [hb g (by rw [hv]; rfl)]; exact hh, r⟩
end Go.Proofs.Ytbpeahhhkcljeaa

/- Codes: rows of two codes in one list; what both have, of the reference (Both). -/
namespace Go.Proofs.Ytbpeahhhkcljeaa
open Go.RowKit Go.Sort

theorem Rwv.keep {u : Value} {n : Nat} {c : Nat → Nat} {w w' : World} (h : Rwv u n c w) (hb : Below w.heap.size w w') : Rwv u n c w' := by
  obtain ⟨A, ca, e, hs, hl, h1, h2, h3⟩ := h
  exact ⟨A, ca, e, hs.below hb hl, hl.mono hb.size, h1, h2, h3⟩
end Go.Proofs.Ytbpeahhhkcljeaa

/- CodePairs: codes held against one another; the ways on which there is nothing. -/
namespace Go.Proofs.Ytbpeahhhkcljeaa
open Go.RowKit Go.Sort

set_option maxHeartbeats 4000000 in
set_option maxRecDepth 100000 in
theorem rsameCode_any (q n : Int) {ao bo : Option Addr} {k n' ca cb : Nat} {R : Nat → Nat → Nat} {w : World} (ha : RL (.slice ao k ca) k n' R w) (hb : RL (.slice bo k cb) k n' R w) (hk : k ≤ 1000000) (hn : n' ≤ 1000000) :
    Calls Try.prog 41 #[.agg #[.int .i64 q, .int .i64 n, .slice ao k ca], .agg #[.int .i64 q, .int .i64 n, .slice bo k cb]] w fun e w' => e = .returned (.bool true) ∧ Below w.heap.size w w' := by
  obtain ⟨w0, hw0⟩ : ∃ w0, w0 = (w.alloc (.cells #[.int .i64 q, .int .i64 n, .slice ao k ca] 43)).alloc (.cells #[.int .i64 q, .int .i64 n, .slice bo k cb] 43) := ⟨_, rfl⟩
  have HW : Hid (Below w.heap.size w w0 ∧ RL (.slice ao k ca) k n' R w0 ∧ RL (.slice bo k cb) k n' R w0) := by
    obtain ⟨h1, _, _, _⟩ := two_boxes q n q n (.slice ao k ca) (.slice bo k cb) w
    rw [hw0]; exact ⟨h1, ha.below h1, hb.below h1⟩
  clear ha hb
  go_enter Try.func41, Try.ntmps41
  go_wp2_with fail
  rw [← hw0]
  clear hw0
  refine (sameAll_rl HW.out.2.1 HW.out.2.2 hk hn).mono ?_
  rintro e w1 ⟨rfl, d, hw1⟩
  have H1 : Hid (Below w.heap.size w w1) := by rw [hw1]; exact below_drewN2 HW.out.1 d
  clear hw1
  go_wp2
  go_ret
  exact ⟨rfl, H1.out⟩
end Go.Proofs.Ytbpeahhhkcljeaa

/- CodePairs: the way of an error. -/
namespace Go.Proofs.Ytbpeahhhkcljeaa
open Go.RowKit Go.Sort

end Go.Proofs.Ytbpeahhhkcljeaa

/- CodePairs: two codes that may be. -/
namespace Go.Proofs.Ytbpeahhhkcljeaa
open Go.RowKit Go.Sort

theorem RB.of {b : Nat} {q n : Int} {v : Value} {w : World} (h : CB b q n v w) (ht : RBt b w) : RB b w := by
  obtain ⟨cs, hh⟩ := ht
  exact ⟨⟨_, h.c0⟩, ⟨_, h.c1⟩, ⟨_, h.c2⟩, frozen_of_row _ _ _ _ _ hh, frozen_of_row _ _ _ _ _ hh, frozen_of_row _ _ _ _ _ hh⟩
end Go.Proofs.Ytbpeahhhkcljeaa
