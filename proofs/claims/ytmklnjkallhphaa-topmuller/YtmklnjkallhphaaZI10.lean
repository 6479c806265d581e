/- Texts of ours, one behind the other: I10 I11 I12 I13 I14 I15 I16 I18 I19 I20 I21 I22 I23 S12 I24 I25 I26 I27. -/
import Derived.Test.YtmklnjkallhphaaZI9
import Derived.Test.YtmklnjkallhphaaZI1
import Derived.Test.YtmklnjkallhphaaZX14
import Derived.Test.YtmklnjkallhphaaZT10
import Derived.Test.YtmklnjkallhphaaZZ10
/- Sums of codes and what both have: the program's checkBoth, Sum, Meet. -/
namespace Go.Proofs.Ytmklnjkallhphaa
open Go.RowKit Go.Sort

/-- What is said of two codes. -/
def cboth (ea eb qa qb na nb : Int) : Int := if ea ≠ 0 then ea else if eb ≠ 0 then eb else if qa ≠ qb ∨ na ≠ nb then 3 else 0
theorem two_boxes (qa na qb nb : Int) (va vb : Value) (w : World) : Below w.heap.size w ((w.alloc (.cells #[.int .i64 qa, .int .i64 na, va] 27)).alloc (.cells #[.int .i64 qb, .int .i64 nb, vb] 27)) ∧ CB w.heap.size qa na va ((w.alloc (.cells #[.int .i64 qa, .int .i64 na, va] 27)).alloc (.cells #[.int .i64 qb, .int .i64 nb, vb] 27)) ∧ CB (w.heap.size + 1) qb nb vb ((w.alloc (.cells #[.int .i64 qa, .int .i64 na, va] 27)).alloc (.cells #[.int .i64 qb, .int .i64 nb, vb] 27)) ∧ ((w.alloc (.cells #[.int .i64 qa, .int .i64 na, va] 27)).alloc (.cells #[.int .i64 qb, .int .i64 nb, vb] 27)).heap.size = w.heap.size + 2 := by
  have hs1 : (w.alloc (.cells #[.int .i64 qa, .int .i64 na, va] 27)).heap.size = w.heap.size + 1 := by simp
  have h1 := CB.new qa na va w
  have h2 := CB.new qb nb vb (w.alloc (.cells #[.int .i64 qa, .int .i64 na, va] 27))
  have b1 : Below (w.alloc (.cells #[.int .i64 qa, .int .i64 na, va] 27)).heap.size (w.alloc (.cells #[.int .i64 qa, .int .i64 na, va] 27)) ((w.alloc (.cells #[.int .i64 qa, .int .i64 na, va] 27)).alloc (.cells #[.int .i64 qb, .int .i64 nb, vb] 27)) := (Below.refl _ _).alloc (Nat.le_refl _) _
  rw [hs1] at h2
  exact ⟨bel_up' ((Below.refl _ _).alloc (Nat.le_refl _) _) b1, h1.keep b1, h2, by simp⟩

set_option maxHeartbeats 4000000 in
set_option maxRecDepth 100000 in
theorem checkBoth_any (ea eb qa qb na nb : Int) {ao bo : Option Addr} {m m' ca cb : Nat} {w : World}
    (hA : ∀ wx, Below w.heap.size w wx → Calls Try.prog 43 #[.agg #[.int .i64 qa, .int .i64 na, .slice ao m ca]] wx fun e w' => e = .returned (.int .i64 ea) ∧ Below wx.heap.size wx w')
    (hB : ∀ wx, Below w.heap.size w wx → Calls Try.prog 43 #[.agg #[.int .i64 qb, .int .i64 nb, .slice bo m' cb]] wx fun e w' => e = .returned (.int .i64 eb) ∧ Below wx.heap.size wx w') :
    Calls Try.prog 46 #[.agg #[.int .i64 qa, .int .i64 na, .slice ao m ca], .agg #[.int .i64 qb, .int .i64 nb, .slice bo m' cb]] w fun e w' => e = .returned (.int .i64 (cboth ea eb qa qb na nb)) ∧ Below w.heap.size w w' := by
  obtain ⟨w0, hw0⟩ : ∃ w0, w0 = (w.alloc (.cells #[.int .i64 qa, .int .i64 na, .slice ao m ca] 27)).alloc (.cells #[.int .i64 qb, .int .i64 nb, .slice bo m' cb] 27) := ⟨_, rfl⟩
  have HW : Hid (Below w.heap.size w w0 ∧ CB w.heap.size qa na (.slice ao m ca) w0 ∧ CB (w.heap.size + 1) qb nb (.slice bo m' cb) w0) := by
    obtain ⟨h1, h2, h3, _⟩ := two_boxes qa na qb nb (.slice ao m ca) (.slice bo m' cb) w
    rw [hw0]; exact ⟨h1, h2, h3⟩
  have HA : Hid (∀ wx, Below w.heap.size w wx → Calls Try.prog 43 #[.agg #[.int .i64 qa, .int .i64 na, .slice ao m ca]] wx fun e w' => e = .returned (.int .i64 ea) ∧ Below wx.heap.size wx w') := hA
  have HB : Hid (∀ wx, Below w.heap.size w wx → Calls Try.prog 43 #[.agg #[.int .i64 qb, .int .i64 nb, .slice bo m' cb]] wx fun e w' => e = .returned (.int .i64 eb) ∧ Below wx.heap.size wx w') := hB
  obtain ⟨E, hE⟩ : ∃ E, E = cboth ea eb qa qb na nb := ⟨_, rfl⟩
  rw [← hE]
  have HE : Hid (E = cboth ea eb qa qb na nb) := hE
  clear hA hB hE
  go_enter Try.func46, Try.ntmps46
  go_wp2_with fail
  rw [← hw0]
  clear hw0
  refine (HA.out _ HW.out.1).mono ?_
  rintro e w1 ⟨rfl, hb1⟩
  have H1 : Hid (Below w.heap.size w w1 ∧ CB w.heap.size qa na (.slice ao m ca) w1 ∧ CB (w.heap.size + 1) qb nb (.slice bo m' cb) w1) := ⟨bel_up' HW.out.1 hb1, HW.out.2.1.keep hb1, HW.out.2.2.keep hb1⟩
  clear hb1
  have hcb1 := H1.out.2.2
  obtain ⟨b0, b1, b2⟩ := hcb1
  by_cases h1 : ea = 0
  · have hz1 : (ea != 0) = false := by rw [h1]; rfl
    have HE1 : Hid (E = if eb ≠ 0 then eb else if qa ≠ qb ∨ na ≠ nb then 3 else 0) := by show E = _; rw [HE.out, cboth, if_neg (fun h => h h1)]
    clear h1
    go_wp2_with fail
    refine (HB.out _ H1.out.1).mono ?_
    rintro e w2 ⟨rfl, hb2⟩
    have H2 : Hid (Below w.heap.size w w2 ∧ CB w.heap.size qa na (.slice ao m ca) w2 ∧ CB (w.heap.size + 1) qb nb (.slice bo m' cb) w2) := ⟨bel_up' H1.out.1 hb2, H1.out.2.1.keep hb2, H1.out.2.2.keep hb2⟩
    clear hb2 b0 b1 b2
    have hcb1 := H2.out.2.1
    obtain ⟨a0, a1, a2⟩ := hcb1
    have hcb2 := H2.out.2.2
    obtain ⟨b0, b1, b2⟩ := hcb2
    by_cases h2 : eb = 0
    · have hz2 : (eb != 0) = false := by rw [h2]; rfl
      have HE2 : Hid (E = if qa ≠ qb ∨ na ≠ nb then 3 else 0) := by show E = _; rw [HE1.out, if_neg (fun h => h h2)]
      clear h2
      by_cases h3 : qa = qb
      · have hz3 : (qa != qb) = false := by rw [bne_eq_false_iff_eq]; exact h3
        by_cases h4 : na = nb
        · have hz4 : (na != nb) = false := by rw [bne_eq_false_iff_eq]; exact h4
          have HE3 : Hid (E = 0) := by show E = 0; rw [HE2.out, if_neg (fun h => h.elim (fun x => x h3) (fun x => x h4))]
          clear h3 h4
          go_wp2
          go_ret
          exact ⟨by rw [HE3.out]; rfl, H2.out.1⟩
        · have hz4 : (na != nb) = true := by rw [bne_iff_ne]; exact h4
          have HE3 : Hid (E = 3) := by show E = 3; rw [HE2.out, if_pos (Or.inr h4)]
          clear h3 h4
          go_wp2
          go_ret
          exact ⟨by rw [HE3.out]; rfl, H2.out.1⟩
      · have hz3 : (qa != qb) = true := by rw [bne_iff_ne]; exact h3
        have HE3 : Hid (E = 3) := by show E = 3; rw [HE2.out, if_pos (Or.inl h3)]
        clear h3
        go_wp2
        go_ret
        exact ⟨by rw [HE3.out]; rfl, H2.out.1⟩
    · have hz2 : (eb != 0) = true := by rw [bne_iff_ne]; exact h2
      have HE2 : Hid (E = eb) := by show E = eb; rw [HE1.out, if_pos h2]
      clear h2
      go_wp2
      go_ret
      exact ⟨by rw [HE2.out]; rfl, H2.out.1⟩
  · have hz1 : (ea != 0) = true := by rw [bne_iff_ne]; exact h1
    have HE1 : Hid (E = ea) := by show E = ea; rw [HE.out, cboth, if_pos h1]
    clear h1
    go_wp2
    go_ret
    exact ⟨by rw [HE1.out]; rfl, H1.out.1⟩

end Go.Proofs.Ytmklnjkallhphaa

/- Sums of codes and what both have: the program's Sum and Meet of codes that may be. -/
namespace Go.Proofs.Ytmklnjkallhphaa
open Go.RowKit Go.Sort

set_option maxHeartbeats 4000000 in
set_option maxRecDepth 100000 in
theorem cSum_ok {D : FD} (hD : D ∈ fieldsL) {ao bo : Option Addr} {m m' n ca cb : Nat} {A B : Nat → Option Addr} {N C N' C' : Nat → Nat} {Z Z' : Nat → Nat → Int} {w : World} (ha : CdZ D ao m n A N C Z w) (hb : CdZ D bo m' n B N' C' Z' w)
    (hC : ∀ wx, Below w.heap.size w wx → Calls Try.prog 46 #[.agg #[.int .i64 D.q, .int .i64 (n : Nat), .slice ao m ca], .agg #[.int .i64 D.q, .int .i64 (n : Nat), .slice bo m' cb]] wx fun x w' => x = .returned (.int .i64 0) ∧ Below wx.heap.size wx w') :
    Calls Try.prog 26 #[.agg #[.int .i64 D.q, .int .i64 (n : Nat), .slice ao m ca], .agg #[.int .i64 D.q, .int .i64 (n : Nat), .slice bo m' cb]] w fun x w' => ∃ k R ro rc, x = .returned (.tuple #[.agg #[.int .i64 D.q, .int .i64 (n : Nat), .slice ro k rc], .int .i64 0]) ∧ MV w.heap.size (.slice ro k rc) k n R w' ∧ Red D n (m + m') (apr m (mzc N Z) (mzc N' Z')) k R ∧ Below w.heap.size w w' := by
  obtain ⟨w0, hw0⟩ : ∃ w0, w0 = ((w.alloc (.cells #[.int .i64 D.q, .int .i64 (n : Nat), .slice ao m ca] 27)).alloc (.cells #[.int .i64 D.q, .int .i64 (n : Nat), .slice bo m' cb] 27)).alloc (.cells #[.int .i64 0, .int .i64 0, .slice none 0 0] 27) := ⟨_, rfl⟩
  have HW : Hid (Below w.heap.size w w0 ∧ RB (w.heap.size + 1 + 1) w0 ∧ CB w.heap.size D.q n (.slice ao m ca) w0 ∧ CB (w.heap.size + 1) D.q n (.slice bo m' cb) w0 ∧ w0.heap.size = w.heap.size + 3) := by
    obtain ⟨h1, h2, h3, h4⟩ := two_boxes D.q n D.q n (.slice ao m ca) (.slice bo m' cb) w
    have h5 := RB.new (.int .i64 0) (.int .i64 0) (.slice none 0 0) ((w.alloc (.cells #[.int .i64 D.q, .int .i64 (n : Nat), .slice ao m ca] 27)).alloc (.cells #[.int .i64 D.q, .int .i64 (n : Nat), .slice bo m' cb] 27))
    have hbl : Below ((w.alloc (.cells #[.int .i64 D.q, .int .i64 (n : Nat), .slice ao m ca] 27)).alloc (.cells #[.int .i64 D.q, .int .i64 (n : Nat), .slice bo m' cb] 27)).heap.size ((w.alloc (.cells #[.int .i64 D.q, .int .i64 (n : Nat), .slice ao m ca] 27)).alloc (.cells #[.int .i64 D.q, .int .i64 (n : Nat), .slice bo m' cb] 27)) (((w.alloc (.cells #[.int .i64 D.q, .int .i64 (n : Nat), .slice ao m ca] 27)).alloc (.cells #[.int .i64 D.q, .int .i64 (n : Nat), .slice bo m' cb] 27)).alloc (.cells #[.int .i64 0, .int .i64 0, .slice none 0 0] 27)) := (Below.refl _ _).alloc (Nat.le_refl _) _
    rw [h4] at h5
    rw [hw0]; exact ⟨bel_up' h1 hbl, h5, h2.keep hbl, h3.keep hbl, by simp⟩
  have HA : Hid (D ∈ fieldsL ∧ CdZ D ao m n A N C Z w ∧ CdZ D bo m' n B N' C' Z' w) := ⟨hD, ha, hb⟩
  have HC : Hid (∀ wx, Below w.heap.size w wx → Calls Try.prog 46 #[.agg #[.int .i64 D.q, .int .i64 (n : Nat), .slice ao m ca], .agg #[.int .i64 D.q, .int .i64 (n : Nat), .slice bo m' cb]] wx fun x w' => x = .returned (.int .i64 0) ∧ Below wx.heap.size wx w') := hC
  have hn1 := ha.n1
  have hn := ha.n64
  clear hD ha hb hC
  go_enter Try.func26, Try.ntmps26
  go_wp2_with fail
  rw [← hw0]
  clear hw0
  refine (HC.out _ HW.out.1).mono ?_
  rintro x w1 ⟨rfl, hb1⟩
  have H1 : Hid (Below w.heap.size w w1 ∧ RB (w.heap.size + 1 + 1) w1 ∧ CB w.heap.size D.q n (.slice ao m ca) w1 ∧ CB (w.heap.size + 1) D.q n (.slice bo m' cb) w1 ∧ w.heap.size + 3 ≤ w1.heap.size) := ⟨bel_up' HW.out.1 hb1, HW.out.2.1.keep hb1, HW.out.2.2.1.keep hb1, HW.out.2.2.2.1.keep hb1, by have := hb1.size; have := HW.out.2.2.2.2; omega⟩
  clear hb1
  have hcb1 := H1.out.2.2.1
  obtain ⟨a0, a1, a2⟩ := hcb1
  have hcb2 := H1.out.2.2.2.1
  obtain ⟨b0, b1, b2⟩ := hcb2
  go_wp2_with fail
  refine (csum_any HA.out.1 (HA.out.2.1.below H1.out.1) (HA.out.2.2.below H1.out.1)).mono ?_
  rintro x w2 ⟨k, R, ro, rc, rfl, hmv, hred, hb2⟩
  have H2 : Hid (MV w1.heap.size (.slice ro k rc) k n R w2 ∧ Red D n (m + m') (apr m (mzc N Z) (mzc N' Z')) k R ∧ Below w.heap.size w w2 ∧ RB (w.heap.size + 1 + 1) w2) := ⟨hmv, hred, bel_up' H1.out.1 hb2, H1.out.2.1.keep hb2⟩
  clear hmv hred hb2 a0 a1 a2 b0 b1 b2
  obtain ⟨⟨x0, c0⟩, ⟨x1, c1⟩, ⟨x2, c2⟩, f0, f1, f2⟩ := H2.out.2.2.2
  go_wp2
  obtain ⟨w3, hw3⟩ : ∃ w3, w3 = laid w2 (w.heap.size + 1 + 1) D.q n (.slice ro k rc) := ⟨_, rfl⟩
  have H3 : Hid (CB (w.heap.size + 1 + 1) D.q n (.slice ro k rc) w3 ∧ MV w.heap.size (.slice ro k rc) k n R w3 ∧ Below w.heap.size w w3) := by
    have := H1.out.2.2.2.2
    rw [hw3]; exact ⟨laid_cb H2.out.2.2.2 _ _ _, (laid_mv H2.out.1 (by omega) _ _ _).mono (by omega), laid_below H2.out.2.2.1 (by omega) _ _ _⟩
  unfold laid at hw3
  rw [← hw3]
  clear hw3 c0 c1 c2 f0 f1 f2
  obtain ⟨c0, c1, c2⟩ := H3.out.1
  refine bodyPost_ret (v := .tuple #[.agg #[.int .i64 D.q, .int .i64 (n : Nat), .slice ro k rc], .int .i64 0]) (by simp [results, Try.results26, go_sem, c0, c1, c2]) rfl ?_
  exact ⟨_, R, _, _, rfl, H3.out.2.1, H2.out.2.1, H3.out.2.2⟩
theorem Dul.of_spn {D : FD} {n m m' k : Nat} {M M' R : Nat → Nat → Nat} (h : Dul D n m M k R) (hs : ∀ v, Spn D (RowsOf m M) v ↔ Spn D (RowsOf m' M') v) : Dul D n m' M' k R := by
  obtain ⟨a, A, q, q2, h1, h2, h3⟩ := h
  exact ⟨a, A, q, q2, h1, fun v => (h2 v).trans (hs v), h3⟩
end Go.Proofs.Ytmklnjkallhphaa

/- Codes: one form and the dual, of the reference (Made, DualOf). -/
namespace Go.Proofs.Ytmklnjkallhphaa
open Go.RowKit Go.Sort

/-- Block b holds a code's cells. -/
def RBt (b : Nat) (w : World) : Prop := ∃ cs, w.heap[b]? = some (.cells cs 27 (0, 0))
theorem RBt.new (cs : Array Value) (w : World) : RBt w.heap.size (w.alloc (.cells cs 27)) := ⟨cs, two_new _⟩
theorem RBt.keep {b : Nat} {w w' : World} (h : RBt b w) (hb : Below w.heap.size w w') : RBt b w' := by
  obtain ⟨cs, h⟩ := h
  exact ⟨cs, by rw [hb.block b (lt_of_block h)]; exact h⟩
theorem Row.notCode {g N b : Nat} {c : Nat → Nat} {w : World} (h : Row g N c w) (ht : RBt b w) : g ≠ b := by
  obtain ⟨cap, f, ⟨cs, h1, _⟩, _⟩ := h
  obtain ⟨ds, h2⟩ := ht
  intro e
  rw [e, h2] at h1
  simp at h1
theorem OwnV.notCode {base b : Nat} {v : Value} {l : List Value} {w : World} (h : OwnV base v l w) (ht : RBt b w) : ∀ g, v.ownBlock = some g → g ≠ b := by
  intro g hg e
  rcases h.2 with ⟨h1, _⟩ | ⟨g', cap, cur, hv, _, hh, _⟩
  · rw [h1] at hg; cases hg
  · rw [hv] at hg
    have hg : some g' = some g := hg
    cases hg
    obtain ⟨ds, h2⟩ := ht
    rw [e, h2] at hh
    simp at hh
theorem OwnV.same {base : Nat} {v : Value} {l : List Value} {w w' : World} (h : OwnV base v l w) (hb : ∀ g, v.ownBlock = some g → w'.heap[g]? = w.heap[g]?) : OwnV base v l w' := by
  obtain ⟨h1, h2⟩ := h
  refine ⟨h1, ?_⟩
  rcases h2 with h2 | ⟨g, cap, cur, hv, hg, hh, r⟩
  · exact Or.inl h2
  · exact Or.inr ⟨g, cap, cur, hv, hg, by rw [hb g (by rw [hv]; rfl)]; exact hh, r⟩
theorem LLs.slc {base : Nat} {v : Value} {L : List (Nat × (Nat → Nat))} {w : World} (h : LLs base v L w) : ∃ ao cap, v = .slice ao L.length cap := by
  obtain ⟨l, h1, h2⟩ := h
  obtain ⟨ao, cap, e, _⟩ := h1.open
  rw [h2.1] at e
  exact ⟨ao, cap, e⟩
theorem LLs.laid {base b : Nat} {v : Value} {L : List (Nat × (Nat → Nat))} {w : World} (h : LLs base v L w) (ht : RBt b w) (q n : Int) (u : Value) : LLs base v L (laid w b q n u) := by
  obtain ⟨l, h1, h2⟩ := h
  refine ⟨l, h1.same (fun g hg => laid_heap w b q n u (h1.notCode ht g hg)), h2.1, fun j x p hx hp => ?_⟩
  obtain ⟨g, cap, e, a1, a2, hr⟩ := h2.2 j x p hx hp
  exact ⟨g, cap, e, a1, a2, hr.other (laid_heap w b q n u (hr.notCode ht))⟩

end Go.Proofs.Ytmklnjkallhphaa

/- Codes: rows of two codes in one list; what both have, of the reference (Both). -/
namespace Go.Proofs.Ytmklnjkallhphaa
open Go.RowKit Go.Sort

theorem Rwv.keep {u : Value} {n : Nat} {c : Nat → Nat} {w w' : World} (h : Rwv u n c w) (hb : Below w.heap.size w w') : Rwv u n c w' := by
  obtain ⟨A, ca, e, hs, hl, h1, h2, h3⟩ := h
  exact ⟨A, ca, e, hs.below hb hl, hl.mono hb.size, h1, h2, h3⟩
end Go.Proofs.Ytmklnjkallhphaa

/- CodePairs: codes held against one another; the ways on which there is nothing. -/
namespace Go.Proofs.Ytmklnjkallhphaa
open Go.RowKit Go.Sort

set_option maxHeartbeats 4000000 in
set_option maxRecDepth 100000 in
theorem rsameCode_any (q n : Int) {ao bo : Option Addr} {k n' ca cb : Nat} {R : Nat → Nat → Nat} {w : World} (ha : RL (.slice ao k ca) k n' R w) (hb : RL (.slice bo k cb) k n' R w) (hk : k ≤ 1000000) (hn : n' ≤ 1000000) :
    Calls Try.prog 25 #[.agg #[.int .i64 q, .int .i64 n, .slice ao k ca], .agg #[.int .i64 q, .int .i64 n, .slice bo k cb]] w fun e w' => e = .returned (.bool true) ∧ Below w.heap.size w w' := by
  obtain ⟨w0, hw0⟩ : ∃ w0, w0 = (w.alloc (.cells #[.int .i64 q, .int .i64 n, .slice ao k ca] 27)).alloc (.cells #[.int .i64 q, .int .i64 n, .slice bo k cb] 27) := ⟨_, rfl⟩
  have HW : Hid (Below w.heap.size w w0 ∧ RL (.slice ao k ca) k n' R w0 ∧ RL (.slice bo k cb) k n' R w0) := by
    obtain ⟨h1, _, _, _⟩ := two_boxes q n q n (.slice ao k ca) (.slice bo k cb) w
    rw [hw0]; exact ⟨h1, ha.below h1, hb.below h1⟩
  clear ha hb
  go_enter Try.func25, Try.ntmps25
  go_wp2_with fail
  rw [← hw0]
  clear hw0
  refine (sameAll_rl HW.out.2.1 HW.out.2.2 hk hn).mono ?_
  rintro e w1 ⟨rfl, d, hw1⟩
  have H1 : Hid (Below w.heap.size w w1) := by rw [hw1]; exact below_drewN2 HW.out.1 d
  clear hw1
  go_wp2
  go_ret
  exact ⟨rfl, H1.out⟩
end Go.Proofs.Ytmklnjkallhphaa

/- CodePairs: the way of an error. -/
namespace Go.Proofs.Ytmklnjkallhphaa
open Go.RowKit Go.Sort

end Go.Proofs.Ytmklnjkallhphaa

/- CodePairs: two codes that may be. -/
namespace Go.Proofs.Ytmklnjkallhphaa
open Go.RowKit Go.Sort

theorem RB.of {b : Nat} {q n : Int} {v : Value} {w : World} (h : CB b q n v w) (ht : RBt b w) : RB b w := by
  obtain ⟨cs, hh⟩ := ht
  exact ⟨⟨_, h.c0⟩, ⟨_, h.c1⟩, ⟨_, h.c2⟩, frozen_of_row _ _ _ _ _ hh, frozen_of_row _ _ _ _ _ hh, frozen_of_row _ _ _ _ _ hh⟩
end Go.Proofs.Ytmklnjkallhphaa

/- Make and Dual, with their checks. -/
namespace Go.Proofs.Ytmklnjkallhphaa
open Go.RowKit Go.Sort

set_option maxHeartbeats 4000000 in
set_option maxRecDepth 100000 in
theorem cMake_ok {D : FD} (hD : D ∈ fieldsL) {ao : Option Addr} {m n ca : Nat} {A : Nat → Option Addr} {N C : Nat → Nat} {Z : Nat → Nat → Int} {w : World} (ha : CdZ D ao m n A N C Z w)
    (hC : ∀ wx, Below w.heap.size w wx → Calls Try.prog 43 #[.agg #[.int .i64 D.q, .int .i64 (n : Nat), .slice ao m ca]] wx fun x w' => x = .returned (.int .i64 0) ∧ Below wx.heap.size wx w') :
    Calls Try.prog 34 #[.agg #[.int .i64 D.q, .int .i64 (n : Nat), .slice ao m ca]] w fun x w' => ∃ k R ro rc, x = .returned (.tuple #[.agg #[.int .i64 D.q, .int .i64 (n : Nat), .slice ro k rc], .int .i64 0]) ∧ MV w.heap.size (.slice ro k rc) k n R w' ∧ Red D n m (mzc N Z) k R ∧ Below w.heap.size w w' := by
  obtain ⟨w0, hw0⟩ : ∃ w0, w0 = (w.alloc (.cells #[.int .i64 D.q, .int .i64 (n : Nat), .slice ao m ca] 27)).alloc (.cells #[.int .i64 0, .int .i64 0, .slice none 0 0] 27) := ⟨_, rfl⟩
  have HW : Hid (Below w.heap.size w w0 ∧ RB (w.heap.size + 1) w0 ∧ CB w.heap.size D.q n (.slice ao m ca) w0 ∧ w0.heap.size = w.heap.size + 2) := by
    obtain ⟨h1, h2, h3, h4⟩ := two_boxes D.q n 0 0 (.slice ao m ca) (.slice none 0 0) w
    have h6 := RBt.new #[.int .i64 0, .int .i64 0, .slice none 0 0] (w.alloc (.cells #[.int .i64 D.q, .int .i64 (n : Nat), .slice ao m ca] 27))
    rw [show (w.alloc (.cells #[.int .i64 D.q, .int .i64 (n : Nat), .slice ao m ca] 27)).heap.size = w.heap.size + 1 by simp] at h6
    rw [hw0]; exact ⟨h1, RB.of h3 h6, h2, by simp⟩
  have HA : Hid (D ∈ fieldsL ∧ CdZ D ao m n A N C Z w) := ⟨hD, ha⟩
  have HC : Hid _ := hC
  have hn1 := ha.n1
  have hn := ha.n64
  clear hD ha hC
  go_enter Try.func34, Try.ntmps34
  go_wp2_with fail
  rw [← hw0]
  clear hw0
  refine (HC.out _ HW.out.1).mono ?_
  rintro x w1 ⟨rfl, hb1⟩
  have H1 : Hid (Below w.heap.size w w1 ∧ RB (w.heap.size + 1) w1 ∧ CB w.heap.size D.q n (.slice ao m ca) w1 ∧ w.heap.size + 2 ≤ w1.heap.size) := ⟨bel_up' HW.out.1 hb1, HW.out.2.1.keep hb1, HW.out.2.2.1.keep hb1, by have := hb1.size; have := HW.out.2.2.2; omega⟩
  clear hb1
  have hcb1 := H1.out.2.2.1
  obtain ⟨a0, a1, a2⟩ := hcb1
  go_wp2_with fail
  refine (oneForm_any HA.out.1 (HA.out.2.below H1.out.1)).mono ?_
  rintro x w2 ⟨k, R, ro, rc, rfl, hmv, hred, hb2⟩
  have H2 : Hid (MV w1.heap.size (.slice ro k rc) k n R w2 ∧ Red D n m (mzc N Z) k R ∧ Below w.heap.size w w2 ∧ RB (w.heap.size + 1) w2) := ⟨hmv, hred, bel_up' H1.out.1 hb2, H1.out.2.1.keep hb2⟩
  clear hmv hred hb2 a0 a1 a2
  obtain ⟨⟨x0, c0⟩, ⟨x1, c1⟩, ⟨x2, c2⟩, f0, f1, f2⟩ := H2.out.2.2.2
  go_wp2
  obtain ⟨w3, hw3⟩ : ∃ w3, w3 = laid w2 (w.heap.size + 1) D.q n (.slice ro k rc) := ⟨_, rfl⟩
  have H3 : Hid (CB (w.heap.size + 1) D.q n (.slice ro k rc) w3 ∧ MV w.heap.size (.slice ro k rc) k n R w3 ∧ Below w.heap.size w w3) := by
    have := H1.out.2.2.2
    rw [hw3]; exact ⟨laid_cb H2.out.2.2.2 _ _ _, (laid_mv H2.out.1 (by omega) _ _ _).mono (by omega), laid_below H2.out.2.2.1 (by omega) _ _ _⟩
  unfold laid at hw3
  rw [← hw3]
  clear hw3 c0 c1 c2 f0 f1 f2
  obtain ⟨c0, c1, c2⟩ := H3.out.1
  refine bodyPost_ret (v := .tuple #[.agg #[.int .i64 D.q, .int .i64 (n : Nat), .slice ro k rc], .int .i64 0]) (by simp [results, Try.results34, go_sem, c0, c1, c2]) rfl ?_
  exact ⟨_, R, _, _, rfl, H3.out.2.1, H2.out.2.1, H3.out.2.2⟩
set_option maxHeartbeats 4000000 in
set_option maxRecDepth 100000 in
theorem cDual_ok {D : FD} (hD : D ∈ fieldsL) {ao : Option Addr} {m n ca : Nat} {A : Nat → Option Addr} {N C : Nat → Nat} {Z : Nat → Nat → Int} {w : World} (ha : CdZ D ao m n A N C Z w)
    (hC : ∀ wx, Below w.heap.size w wx → Calls Try.prog 43 #[.agg #[.int .i64 D.q, .int .i64 (n : Nat), .slice ao m ca]] wx fun x w' => x = .returned (.int .i64 0) ∧ Below wx.heap.size wx w') :
    Calls Try.prog 24 #[.agg #[.int .i64 D.q, .int .i64 (n : Nat), .slice ao m ca]] w fun x w' => ∃ k R ro rc, x = .returned (.tuple #[.agg #[.int .i64 D.q, .int .i64 (n : Nat), .slice ro k rc], .int .i64 0]) ∧ MV w.heap.size (.slice ro k rc) k n R w' ∧ Dul D n m (mzc N Z) k R ∧ Below w.heap.size w w' := by
  obtain ⟨w0, hw0⟩ : ∃ w0, w0 = (w.alloc (.cells #[.int .i64 D.q, .int .i64 (n : Nat), .slice ao m ca] 27)).alloc (.cells #[.int .i64 0, .int .i64 0, .slice none 0 0] 27) := ⟨_, rfl⟩
  have HW : Hid (Below w.heap.size w w0 ∧ RB (w.heap.size + 1) w0 ∧ CB w.heap.size D.q n (.slice ao m ca) w0 ∧ w0.heap.size = w.heap.size + 2) := by
    obtain ⟨h1, h2, h3, h4⟩ := two_boxes D.q n 0 0 (.slice ao m ca) (.slice none 0 0) w
    have h6 := RBt.new #[.int .i64 0, .int .i64 0, .slice none 0 0] (w.alloc (.cells #[.int .i64 D.q, .int .i64 (n : Nat), .slice ao m ca] 27))
    rw [show (w.alloc (.cells #[.int .i64 D.q, .int .i64 (n : Nat), .slice ao m ca] 27)).heap.size = w.heap.size + 1 by simp] at h6
    rw [hw0]; exact ⟨h1, RB.of h3 h6, h2, by simp⟩
  have HA : Hid (D ∈ fieldsL ∧ CdZ D ao m n A N C Z w) := ⟨hD, ha⟩
  have HC : Hid _ := hC
  have hn1 := ha.n1
  have hn := ha.n64
  clear hD ha hC
  go_enter Try.func24, Try.ntmps24
  go_wp2_with fail
  rw [← hw0]
  clear hw0
  refine (HC.out _ HW.out.1).mono ?_
  rintro x w1 ⟨rfl, hb1⟩
  have H1 : Hid (Below w.heap.size w w1 ∧ RB (w.heap.size + 1) w1 ∧ CB w.heap.size D.q n (.slice ao m ca) w1 ∧ w.heap.size + 2 ≤ w1.heap.size) := ⟨bel_up' HW.out.1 hb1, HW.out.2.1.keep hb1, HW.out.2.2.1.keep hb1, by have := hb1.size; have := HW.out.2.2.2; omega⟩
  clear hb1
  have hcb1 := H1.out.2.2.1
  obtain ⟨a0, a1, a2⟩ := hcb1
  go_wp2_with fail
  refine (dual_any HA.out.1 (HA.out.2.below H1.out.1)).mono ?_
  rintro x w2 ⟨k, R, ro, rc, rfl, hmv, hred, hb2⟩
  have H2 : Hid (MV w1.heap.size (.slice ro k rc) k n R w2 ∧ Dul D n m (mzc N Z) k R ∧ Below w.heap.size w w2 ∧ RB (w.heap.size + 1) w2) := ⟨hmv, hred, bel_up' H1.out.1 hb2, H1.out.2.1.keep hb2⟩
  clear hmv hred hb2 a0 a1 a2
  obtain ⟨⟨x0, c0⟩, ⟨x1, c1⟩, ⟨x2, c2⟩, f0, f1, f2⟩ := H2.out.2.2.2
  go_wp2
  obtain ⟨w3, hw3⟩ : ∃ w3, w3 = laid w2 (w.heap.size + 1) D.q n (.slice ro k rc) := ⟨_, rfl⟩
  have H3 : Hid (CB (w.heap.size + 1) D.q n (.slice ro k rc) w3 ∧ MV w.heap.size (.slice ro k rc) k n R w3 ∧ Below w.heap.size w w3) := by
    have := H1.out.2.2.2
    rw [hw3]; exact ⟨laid_cb H2.out.2.2.2 _ _ _, (laid_mv H2.out.1 (by omega) _ _ _).mono (by omega), laid_below H2.out.2.2.1 (by omega) _ _ _⟩
  unfold laid at hw3
  rw [← hw3]
  clear hw3 c0 c1 c2 f0 f1 f2
  obtain ⟨c0, c1, c2⟩ := H3.out.1
  refine bodyPost_ret (v := .tuple #[.agg #[.int .i64 D.q, .int .i64 (n : Nat), .slice ro k rc], .int .i64 0]) (by simp [results, Try.results24, go_sem, c0, c1, c2]) rfl ?_
  exact ⟨_, R, _, _, rfl, H3.out.2.1, H2.out.2.1, H3.out.2.2⟩
end Go.Proofs.Ytmklnjkallhphaa

/- Weights and distances of words, on both sides. -/
namespace Go.Proofs.Ytmklnjkallhphaa
open Go.RowKit Go.Sort

set_option maxHeartbeats 4000000 in
set_option maxRecDepth 100000 in
theorem capart_any {ao bo : Option Addr} {n ca cb : Nat} {a b : Nat → Int} {w : World} (hA : SlZ ao n a w) (hB : SlZ bo n b w) (hla : LtB ao w.heap.size) (hlb : LtB bo w.heap.size) (hn : n ≤ 1000) :
    Calls Try.prog 30 #[.slice ao n ca, .slice bo n cb] w fun e w' => e = .returned (.int .i64 (ct (fun i => !decide (a i = b i)) n : Nat)) ∧ Below w.heap.size w w' := by
  have HF : Hid (SlZ ao n a w ∧ SlZ bo n b w ∧ LtB ao w.heap.size ∧ LtB bo w.heap.size) := ⟨hA, hB, hla, hlb⟩
  clear hA hB hla hlb
  go_enter Try.func30, Try.ntmps30
  go_wp2
  go_loopw [5, 15] (fun vm vi wr => ∃ (r m : Nat), r ≤ n ∧ m ≤ r ∧ vm = .int .i64 (m : Nat) ∧ vi = .int .i64 r ∧ Hid (m = ct (fun i => !decide (a i = b i)) r ∧ Below w.heap.size w wr)) (fun _ vi _ => n - (intOf vi).toNat)
  case atStart => exact ⟨0, 0, by omega, by omega, rfl, rfl, rfl, Below.refl _ _⟩
  case round =>
    obtain ⟨r, m, hr, hmr, rfl, rfl, HG⟩ := hrel
    rename World => wr
    by_cases hlt : r < n
    · have hib : (r : Int) < (n : Int) := by omega
      obtain ⟨ba, oa, hao, hca⟩ := (HF.out.1.below HG.out.2 HF.out.2.2.1) r hlt
      subst hao
      obtain ⟨bb, ob, hbo, hcb⟩ := (HF.out.2.1.below HG.out.2 HF.out.2.2.2) r hlt
      subst hbo
      obtain ⟨x, hx⟩ : ∃ x, x = a r := ⟨_, rfl⟩
      obtain ⟨y, hy⟩ : ∃ y, y = b r := ⟨_, rfl⟩
      rw [← hx] at hca
      rw [← hy] at hcb
      by_cases e : x = y
      · have hz : (x != y) = false := by rw [e]; simp
        have HV : Hid (m = ct (fun i => !decide (a i = b i)) (r + 1)) := by
          show m = ct (fun i => !decide (a i = b i)) r + if (!decide (a r = b r)) = true then 1 else 0
          rw [← HG.out.1, decide_eq_true (by rw [← hx, ← hy]; exact e)]; rfl
        clear e hx hy
        go_wp2
        go_roundw
        case rel => exact ⟨r + 1, m, by omega, by omega, rfl, by go_num, HV.out, by first | exact HG.out.2 | exact HG.out.2.drew | exact below_drewN2 HG.out.2 _⟩
        case measure => simp [intOf]; omega
      · have hz : (x != y) = true := by rw [bne_iff_ne]; exact e
        have HV : Hid (m + 1 = ct (fun i => !decide (a i = b i)) (r + 1)) := by
          show m + 1 = ct (fun i => !decide (a i = b i)) r + if (!decide (a r = b r)) = true then 1 else 0
          rw [← HG.out.1, decide_eq_false (by rw [← hx, ← hy]; exact e)]; rfl
        clear e hx hy
        go_wp2
        go_roundw
        case rel => exact ⟨r + 1, m + 1, by omega, by omega, by go_num, by go_num, HV.out, by first | exact HG.out.2 | exact HG.out.2.drew | exact below_drewN2 HG.out.2 _⟩
        case measure => simp [intOf]; omega
    · have hib : ¬ (r : Int) < (n : Int) := by omega
      have hre : n = r := by omega
      subst hre
      go_wp2
      go_ret
      exact ⟨by rw [HG.out.1]; rfl, by first | exact HG.out.2 | exact HG.out.2.drew | exact below_drewN2 HG.out.2 _⟩
end Go.Proofs.Ytmklnjkallhphaa

/- Numbers of a word: may they be? The program's numbers. -/
namespace Go.Proofs.Ytmklnjkallhphaa
open Go.RowKit Go.Sort

end Go.Proofs.Ytmklnjkallhphaa

/- Encode: the sum of the rows of the one form. -/
namespace Go.Proofs.Ytmklnjkallhphaa
open Go.RowKit Go.Sort

/-- The sum of the first rows, each so many times. -/
def enw (D : FD) (R : Nat → Nat → Nat) (z : Nat → Nat) : Nat → Nat → Nat
  | 0 => pnil
  | k + 1 => padd D (enw D R z k) (pscale D (z k) (R k))
theorem enw_el {D : FD} (F : Fld D) {R : Nat → Nat → Nat} {z : Nat → Nat} : ∀ k, El D (enw D R z k)
  | 0 => el_nil F
  | k + 1 => el_add F (enw_el F k) (el_scale F _ _)
end Go.Proofs.Ytmklnjkallhphaa

/- Encoded: the reference's sum of rows. -/
namespace Go.Proofs.Ytmklnjkallhphaa
open Go.RowKit Go.Sort

end Go.Proofs.Ytmklnjkallhphaa

/- Encode: where there is nothing to tell. -/
namespace Go.Proofs.Ytmklnjkallhphaa
open Go.RowKit Go.Sort

end Go.Proofs.Ytmklnjkallhphaa

/- Plain mathematics: products of rows; what makes rows 0. No Go text here. -/
namespace Go.Proofs.Ytmklnjkallhphaa

/-- The sum of the products of the first numbers of two lists. -/
def dot (D : FD) (a b : Nat → Nat) : Nat → Nat
  | 0 => 0
  | j + 1 => D.ad (dot D a b j) (D.mul (a j) (b j))
theorem dot_lt {D : FD} (F : Fld D) (a b : Nat → Nat) : ∀ j, dot D a b j < D.q
  | 0 => zero_lt' F
  | j + 1 => ad_lt F (dot_lt F a b j) (F.mul_lt _ _)
theorem dot_comm {D : FD} (F : Fld D) (a b : Nat → Nat) : ∀ n, dot D a b n = dot D b a n
  | 0 => rfl
  | n + 1 => by
    show D.ad (dot D a b n) (D.mul (a n) (b n)) = D.ad (dot D b a n) (D.mul (b n) (a n))
    rw [dot_comm F a b n, F.mul_comm (a n)]
theorem dot_nil {D : FD} (F : Fld D) (v : Nat → Nat) : ∀ n, dot D pnil v n = 0
  | 0 => rfl
  | n + 1 => by
    show D.ad (dot D pnil v n) (D.mul 0 (v n)) = 0
    rw [dot_nil F v n, zmul F, ad_zero F (zero_lt' F)]
theorem dot_add {D : FD} (F : Fld D) {a b : Nat → Nat} (ha : El D a) (hb : El D b) (v : Nat → Nat) : ∀ n, dot D (padd D a b) v n = D.ad (dot D a v n) (dot D b v n)
  | 0 => (ad_zero F (zero_lt' F)).symm
  | n + 1 => by
    show D.ad (dot D (padd D a b) v n) (D.mul (D.ad (a n) (b n)) (v n)) = D.ad (D.ad (dot D a v n) (D.mul (a n) (v n))) (D.ad (dot D b v n) (D.mul (b n) (v n)))
    rw [dot_add F ha hb v n, ad_mul F (ha n) (hb n), ad4 F (dot_lt F _ _ _) (dot_lt F _ _ _) (F.mul_lt _ _) (F.mul_lt _ _)]
theorem dot_scale {D : FD} (F : Fld D) (s : Nat) (a v : Nat → Nat) : ∀ n, dot D (pscale D s a) v n = D.mul s (dot D a v n)
  | 0 => (mul0 F s).symm
  | n + 1 => by
    show D.ad (dot D (pscale D s a) v n) (D.mul (D.mul s (a n)) (v n)) = D.mul s (D.ad (dot D a v n) (D.mul (a n) (v n)))
    rw [dot_scale F s a v n, mul_ad F (dot_lt F _ _ _) (F.mul_lt _ _), F.mul_assoc]
/-- What makes rows 0 makes all 0 that they span. -/
theorem dot_spn {D : FD} (F : Fld D) {P : (Nat → Nat) → Prop} {u x : Nat → Nat} {n : Nat} (h : Spn D P u) (hP : ∀ v, P v → dot D v x n = 0) : dot D u x n = 0 := by
  obtain ⟨l, hl, rfl⟩ := h
  induction l with
  | nil => exact dot_nil F x n
  | cons y l ih =>
    show dot D (padd D (pscale D y.1 y.2) (lsum D l)) x n = 0
    rw [dot_add F (el_scale F _ _) (lsum_el F l), dot_scale F, hP _ (hl y (List.mem_cons_self ..)), mul0 F, ih (fun z hz => hl z (List.mem_cons_of_mem _ hz)), ad_zero F (zero_lt' F)]
theorem dot_congr {D : FD} {a a' b b' : Nat → Nat} : ∀ n, (∀ j, j < n → a j = a' j ∧ b j = b' j) → dot D a b n = dot D a' b' n
  | 0, _ => rfl
  | n + 1, h => by
    show D.ad (dot D a b n) (D.mul (a n) (b n)) = D.ad (dot D a' b' n) (D.mul (a' n) (b' n))
    rw [dot_congr n (fun j hj => h j (by omega)), (h n (by omega)).1, (h n (by omega)).2]
/-- A number put where 0 was. -/
theorem dot_put {D : FD} (F : Fld D) {a b : Nat → Nat} {j v : Nat} (hb : b j = 0) : ∀ n, j < n → dot D a (fun t => if t = j then v else b t) n = D.ad (dot D a b n) (D.mul (a j) v)
  | 0, h => absurd h (by omega)
  | n + 1, h => by
    show D.ad (dot D a (fun t => if t = j then v else b t) n) (D.mul (a n) (if n = j then v else b n)) = D.ad (D.ad (dot D a b n) (D.mul (a n) (b n))) (D.mul (a j) v)
    by_cases e : n = j
    · subst e
      rw [if_pos rfl, hb, mul0 F, ad_zero F (dot_lt F _ _ _), dot_congr (a' := a) (b' := b) n (fun t ht => ⟨rfl, if_neg (by omega)⟩)]
    · rw [if_neg e, dot_put F hb n (by omega), ad_assoc F (dot_lt F _ _ _) (F.mul_lt _ _) (F.mul_lt _ _), ad_comm F (D.mul (a j) v), ← ad_assoc F (dot_lt F _ _ _) (F.mul_lt _ _) (F.mul_lt _ _)]
theorem dot_unit {D : FD} (F : Fld D) {a : Nat → Nat} {c n : Nat} (ha : a c < D.q) (hc : c < n) : dot D a (fun t => if t = c then 1 else 0) n = a c := by
  have h := dot_put F (a := a) (b := pnil) (j := c) (v := 1) rfl n hc
  rw [mul1 F ha, dot_comm F a pnil, dot_nil F, zero_ad F ha] at h
  exact h
end Go.Proofs.Ytmklnjkallhphaa

/- WordMay and Dot of the reference. -/
namespace Go.Proofs.Ytmklnjkallhphaa
open Go.RowKit Go.Sort

end Go.Proofs.Ytmklnjkallhphaa

/- Syndrome and Has. -/
namespace Go.Proofs.Ytmklnjkallhphaa
open Go.RowKit Go.Sort

end Go.Proofs.Ytmklnjkallhphaa

/- Has. -/
namespace Go.Proofs.Ytmklnjkallhphaa
open Go.RowKit Go.Sort

theorem slz_of {ao : Option Addr} {n : Nat} {a : Nat → Nat} {w : World} (h : Sl ao n a w) : SlZ ao n (fun i => ((a i : Nat) : Int)) w := h
end Go.Proofs.Ytmklnjkallhphaa

/- CodeSays: the words of a code. -/
namespace Go.Proofs.Ytmklnjkallhphaa
open Go.RowKit Go.Sort

end Go.Proofs.Ytmklnjkallhphaa
