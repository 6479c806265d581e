/- Texts of ours, one behind the other: I12 I13 I14 I15 I16 I18 I19 I20 I21 I22 I23 S12 I24 S13 K7 G2 S20 KA1 KA2 KA3 S23 S24 S25. -/
import Derived.Test.YtbofcldmgjeklabZI5
import Derived.Test.YtbofcldmgjeklabZQ2
import Derived.Test.YtbofcldmgjeklabZS4
import Derived.Test.YtbofcldmgjeklabZX18
import Derived.Test.YtbofcldmgjeklabZK4
import Derived.Test.YtbofcldmgjeklabZI3
import Derived.Test.YtbofcldmgjeklabZU9
import Derived.Test.YtbofcldmgjeklabZV7
import Derived.Test.YtbofcldmgjeklabZA1
import Derived.Test.YtbofcldmgjeklabZD1
import Derived.Test.YtbofcldmgjeklabZM3
import Derived.Test.YtbofcldmgjeklabZN4
import Derived.Deep.CutBlock
import Derived.Deep.DeepCutAuto
/- Codes: one form and the dual, of the reference (Made, DualOf). -/
namespace Go.Proofs.Ytbofcldmgjeklab
open Go.RowKit Go.Sort

/-- Block b holds a code's cells. -/
def RBt (b : Nat) (w : World) : Prop := ∃ cs, w.heap[b]? = some (.cells cs 50 (0, 0))
theorem RBt.new (cs : Array Value) (w : World) : RBt w.heap.size (w.alloc (.cells cs 50)) := ⟨cs, two_new _⟩
theorem RBt.keep {b : Nat} {w w' : World} (h : RBt b w) (hb : Below w.heap.size w w') : RBt b w' := by
  obtain ⟨cs, h⟩ := h
  exact ⟨cs, by rw [hb.block b (lt_of_block h)]; exact h⟩
theorem Row.notCode {g N b : Nat} {c : Nat → Nat} {w : World} (h : Row g N c w) (ht : RBt b w) : g ≠ b := by
  obtain ⟨cap, f, ⟨cs, h1, _⟩, _⟩ := h
  obtain ⟨ds, h2⟩ := ht
  intro e
  rw [e, h2] at h1
  simp at h1
theorem OwnV.notCode {base b : Nat} {v : Value} {l : List Value} {w : World} (h : OwnV base v l w) (ht : RBt b w) : ∀ g, v.ownBlock = some g → g ≠ b := by
  intro g hg e
  rcases h.2 with ⟨h1, _⟩ | ⟨g', cap, cur, hv, _, hh, _⟩
  · rw [h1] at hg; cases hg
  · rw [hv] at hg
    have hg : some g' = some g := hg
    cases hg
    obtain ⟨ds, h2⟩ := ht
    rw [e, h2] at hh
    simp at hh
theorem OwnV.same {base : Nat} {v : Value} {l : List Value} {w w' : World} (h : OwnV base v l w) (hb : ∀ g, v.ownBlock = some g → w'.heap[g]? = w.heap[g]?) : OwnV base v l w' := by
  obtain ⟨h1, h2⟩ := h
  refine ⟨h1, ?_⟩
  rcases h2 with h2 | ⟨g, cap, cur, hv, hg, hh, r⟩
  · exact Or.inl h2
  · exact Or.inr ⟨g, cap, cur, hv, hg, by rw [hb g (by rw [hv]; rfl)]; exact hh, r⟩
theorem LLs.laid {base b : Nat} {v : Value} {L : List (Nat × (Nat → Nat))} {w : World} (h : LLs base v L w) (ht : RBt b w) (q n : Int) (u : Value) : LLs base v L (laid w b q n u) := by
  obtain ⟨l, h1, h2⟩ := h
  refine ⟨l, h1.same (fun g hg => laid_heap w b q n u (h1.notCode ht g hg)), h2.1, fun j x p hx hp => ?_⟩
  obtain ⟨g, cap, e, a1, a2, hr⟩ := h2.2 j x p hx hp
  exact ⟨g, cap, e, a1, a2, hr.other (laid_heap w b q n u (hr.notCode ht))⟩

end Go.Proofs.Ytbofcldmgjeklab

/- Codes: rows of two codes in one list; what both have, of the reference (Both). -/
namespace Go.Proofs.Ytbofcldmgjeklab
open Go.RowKit Go.Sort

theorem Rwv.keep {u : Value} {n : Nat} {c : Nat → Nat} {w w' : World} (h : Rwv u n c w) (hb : Below w.heap.size w w') : Rwv u n c w' := by
  obtain ⟨A, ca, e, hs, hl, h1, h2, h3⟩ := h
  exact ⟨A, ca, e, hs.below hb hl, hl.mono hb.size, h1, h2, h3⟩
end Go.Proofs.Ytbofcldmgjeklab

/- CodePairs: codes held against one another; the ways on which there is nothing. -/
namespace Go.Proofs.Ytbofcldmgjeklab
open Go.RowKit Go.Sort

end Go.Proofs.Ytbofcldmgjeklab

/- CodePairs: the way of an error. -/
namespace Go.Proofs.Ytbofcldmgjeklab
open Go.RowKit Go.Sort

end Go.Proofs.Ytbofcldmgjeklab

/- CodePairs: two codes that may be. -/
namespace Go.Proofs.Ytbofcldmgjeklab
open Go.RowKit Go.Sort

theorem RB.of {b : Nat} {q n : Int} {v : Value} {w : World} (h : CB b q n v w) (ht : RBt b w) : RB b w := by
  obtain ⟨cs, hh⟩ := ht
  exact ⟨⟨_, h.c0⟩, ⟨_, h.c1⟩, ⟨_, h.c2⟩, frozen_of_row _ _ _ _ _ hh, frozen_of_row _ _ _ _ _ hh, frozen_of_row _ _ _ _ _ hh⟩
end Go.Proofs.Ytbofcldmgjeklab

/- Make and Dual, with their checks. -/
namespace Go.Proofs.Ytbofcldmgjeklab
open Go.RowKit Go.Sort

set_option maxHeartbeats 4000000 in
set_option maxRecDepth 100000 in
theorem cMake_ok {D : FD} (hD : D ∈ fieldsL) {ao : Option Addr} {m n ca : Nat} {A : Nat → Option Addr} {N C : Nat → Nat} {Z : Nat → Nat → Int} {w : World} (ha : CdZ D ao m n A N C Z w)
    (hC : ∀ wx, Below w.heap.size w wx → Calls Try.prog 69 #[.agg #[.int .i64 D.q, .int .i64 (n : Nat), .slice ao m ca]] wx fun x w' => x = .returned (.int .i64 0) ∧ Below wx.heap.size wx w') :
    Calls Try.prog 29 #[.agg #[.int .i64 D.q, .int .i64 (n : Nat), .slice ao m ca]] w fun x w' => ∃ k R ro rc, x = .returned (.tuple #[.agg #[.int .i64 D.q, .int .i64 (n : Nat), .slice ro k rc], .int .i64 0]) ∧ MV w.heap.size (.slice ro k rc) k n R w' ∧ Red D n m (mzc N Z) k R ∧ Below w.heap.size w w' := by
  obtain ⟨w0, hw0⟩ : ∃ w0, w0 = (w.alloc (.cells #[.int .i64 D.q, .int .i64 (n : Nat), .slice ao m ca] 50)).alloc (.cells #[.int .i64 0, .int .i64 0, .slice none 0 0] 50) := ⟨_, rfl⟩
  have HW : Hid (Below w.heap.size w w0 ∧ RB (w.heap.size + 1) w0 ∧ CB w.heap.size D.q n (.slice ao m ca) w0 ∧ w0.heap.size = w.heap.size + 2) := by
    obtain ⟨h1, h2, h3, h4⟩ := two_boxes D.q n 0 0 (.slice ao m ca) (.slice none 0 0) w
    have h6 := RBt.new #[.int .i64 0, .int .i64 0, .slice none 0 0] (w.alloc (.cells #[.int .i64 D.q, .int .i64 (n : Nat), .slice ao m ca] 50))
    rw [show (w.alloc (.cells #[.int .i64 D.q, .int .i64 (n : Nat), .slice ao m ca] 50)).heap.size = w.heap.size + 1 by simp] at h6
    rw [hw0]; exact ⟨h1, RB.of h3 h6, h2, by simp⟩
  have HA : Hid (D ∈ fieldsL ∧ CdZ D ao m n A N C Z w) := ⟨hD, ha⟩
  have HC : Hid _ := hC
  have hn1 := ha.n1
  have hn := ha.n64
  clear hD ha hC
  go_enter Try.func29, Try.ntmps29
  go_wp2_with fail
  rw [← hw0]
  clear hw0
  refine (HC.out _ HW.out.1).mono ?_
  rintro x w1 ⟨rfl, hb1⟩
  have H1 : Hid (Below w.heap.size w w1 ∧ RB (w.heap.size + 1) w1 ∧ CB w.heap.size D.q n (.slice ao m ca) w1 ∧ w.heap.size + 2 ≤ w1.heap.size) := ⟨bel_up' HW.out.1 hb1, HW.out.2.1.keep hb1, HW.out.2.2.1.keep hb1, by have := hb1.size; have := HW.out.2.2.2; omega⟩
  clear hb1
  have hcb1 := H1.out.2.2.1
  obtain ⟨a0, a1, a2⟩ := hcb1
  go_wp2_with fail
  refine (oneForm_any HA.out.1 (HA.out.2.below H1.out.1)).mono ?_
  rintro x w2 ⟨k, R, ro, rc, rfl, hmv, hred, hb2⟩
  have H2 : Hid (MV w1.heap.size (.slice ro k rc) k n R w2 ∧ Red D n m (mzc N Z) k R ∧ Below w.heap.size w w2 ∧ RB (w.heap.size + 1) w2) := ⟨hmv, hred, bel_up' H1.out.1 hb2, H1.out.2.1.keep hb2⟩
  clear hmv hred hb2 a0 a1 a2
  obtain ⟨⟨x0, c0⟩, ⟨x1, c1⟩, ⟨x2, c2⟩, f0, f1, f2⟩ := H2.out.2.2.2
  go_wp2
  obtain ⟨w3, hw3⟩ : ∃ w3, w3 = laid w2 (w.heap.size + 1) D.q n (.slice ro k rc) := ⟨_, rfl⟩
  have H3 : Hid (CB (w.heap.size + 1) D.q n (.slice ro k rc) w3 ∧ MV w.heap.size (.slice ro k rc) k n R w3 ∧ Below w.heap.size w w3) := by
    have := H1.out.2.2.2
    rw [hw3]; exact ⟨laid_cb H2.out.2.2.2 _ _ _, (laid_mv H2.out.1 (by omega) _ _ _).mono (by omega), laid_below H2.out.2.2.1 (by omega) _ _ _⟩
  unfold laid at hw3
  rw [← hw3]
  clear hw3 c0 c1 c2 f0 f1 f2
  obtain ⟨c0, c1, c2⟩ := H3.out.1
  refine bodyPost_ret (v := .tuple #[.agg #[.int .i64 D.q, .int .i64 (n : Nat), .slice ro k rc], .int .i64 0]) (by simp [results, Try.results29, go_sem, c0, c1, c2]) rfl ?_
  exact ⟨_, R, _, _, rfl, H3.out.2.1, H2.out.2.1, H3.out.2.2⟩
set_option maxHeartbeats 4000000 in
set_option maxRecDepth 100000 in
theorem cDual_ok {D : FD} (hD : D ∈ fieldsL) {ao : Option Addr} {m n ca : Nat} {A : Nat → Option Addr} {N C : Nat → Nat} {Z : Nat → Nat → Int} {w : World} (ha : CdZ D ao m n A N C Z w)
    (hC : ∀ wx, Below w.heap.size w wx → Calls Try.prog 69 #[.agg #[.int .i64 D.q, .int .i64 (n : Nat), .slice ao m ca]] wx fun x w' => x = .returned (.int .i64 0) ∧ Below wx.heap.size wx w') :
    Calls Try.prog 25 #[.agg #[.int .i64 D.q, .int .i64 (n : Nat), .slice ao m ca]] w fun x w' => ∃ k R ro rc, x = .returned (.tuple #[.agg #[.int .i64 D.q, .int .i64 (n : Nat), .slice ro k rc], .int .i64 0]) ∧ MV w.heap.size (.slice ro k rc) k n R w' ∧ Dul D n m (mzc N Z) k R ∧ Below w.heap.size w w' := by
  obtain ⟨w0, hw0⟩ : ∃ w0, w0 = (w.alloc (.cells #[.int .i64 D.q, .int .i64 (n : Nat), .slice ao m ca] 50)).alloc (.cells #[.int .i64 0, .int .i64 0, .slice none 0 0] 50) := ⟨_, rfl⟩
  have HW : Hid (Below w.heap.size w w0 ∧ RB (w.heap.size + 1) w0 ∧ CB w.heap.size D.q n (.slice ao m ca) w0 ∧ w0.heap.size = w.heap.size + 2) := by
    obtain ⟨h1, h2, h3, h4⟩ := two_boxes D.q n 0 0 (.slice ao m ca) (.slice none 0 0) w
    have h6 := RBt.new #[.int .i64 0, .int .i64 0, .slice none 0 0] (w.alloc (.cells #[.int .i64 D.q, .int .i64 (n : Nat), .slice ao m ca] 50))
    rw [show (w.alloc (.cells #[.int .i64 D.q, .int .i64 (n : Nat), .slice ao m ca] 50)).heap.size = w.heap.size + 1 by simp] at h6
    rw [hw0]; exact ⟨h1, RB.of h3 h6, h2, by simp⟩
  have HA : Hid (D ∈ fieldsL ∧ CdZ D ao m n A N C Z w) := ⟨hD, ha⟩
  have HC : Hid _ := hC
  have hn1 := ha.n1
  have hn := ha.n64
  clear hD ha hC
  go_enter Try.func25, Try.ntmps25
  go_wp2_with fail
  rw [← hw0]
  clear hw0
  refine (HC.out _ HW.out.1).mono ?_
  rintro x w1 ⟨rfl, hb1⟩
  have H1 : Hid (Below w.heap.size w w1 ∧ RB (w.heap.size + 1) w1 ∧ CB w.heap.size D.q n (.slice ao m ca) w1 ∧ w.heap.size + 2 ≤ w1.heap.size) := ⟨bel_up' HW.out.1 hb1, HW.out.2.1.keep hb1, HW.out.2.2.1.keep hb1, by have := hb1.size; have := HW.out.2.2.2; omega⟩
  clear hb1
  have hcb1 := H1.out.2.2.1
  obtain ⟨a0, a1, a2⟩ := hcb1
  go_wp2_with fail
  refine (dual_any HA.out.1 (HA.out.2.below H1.out.1)).mono ?_
  rintro x w2 ⟨k, R, ro, rc, rfl, hmv, hred, hb2⟩
  have H2 : Hid (MV w1.heap.size (.slice ro k rc) k n R w2 ∧ Dul D n m (mzc N Z) k R ∧ Below w.heap.size w w2 ∧ RB (w.heap.size + 1) w2) := ⟨hmv, hred, bel_up' H1.out.1 hb2, H1.out.2.1.keep hb2⟩
  clear hmv hred hb2 a0 a1 a2
  obtain ⟨⟨x0, c0⟩, ⟨x1, c1⟩, ⟨x2, c2⟩, f0, f1, f2⟩ := H2.out.2.2.2
  go_wp2
  obtain ⟨w3, hw3⟩ : ∃ w3, w3 = laid w2 (w.heap.size + 1) D.q n (.slice ro k rc) := ⟨_, rfl⟩
  have H3 : Hid (CB (w.heap.size + 1) D.q n (.slice ro k rc) w3 ∧ MV w.heap.size (.slice ro k rc) k n R w3 ∧ Below w.heap.size w w3) := by
    have := H1.out.2.2.2
    rw [hw3]; exact ⟨laid_cb H2.out.2.2.2 _ _ _, (laid_mv H2.out.1 (by omega) _ _ _).mono (by omega), laid_below H2.out.2.2.1 (by omega) _ _ _⟩
  unfold laid at hw3
  rw [← hw3]
  clear hw3 c0 c1 c2 f0 f1 f2
  obtain ⟨c0, c1, c2⟩ := H3.out.1
  refine bodyPost_ret (v := .tuple #[.agg #[.int .i64 D.q, .int .i64 (n : Nat), .slice ro k rc], .int .i64 0]) (by simp [results, Try.results25, go_sem, c0, c1, c2]) rfl ?_
  exact ⟨_, R, _, _, rfl, H3.out.2.1, H2.out.2.1, H3.out.2.2⟩
end Go.Proofs.Ytbofcldmgjeklab

/- Weights and distances of words, on both sides. -/
namespace Go.Proofs.Ytbofcldmgjeklab
open Go.RowKit Go.Sort

end Go.Proofs.Ytbofcldmgjeklab

/- Numbers of a word: may they be? The program's numbers. -/
namespace Go.Proofs.Ytbofcldmgjeklab
open Go.RowKit Go.Sort

/-- What is said of m numbers that are to be so many elements. -/
def FD.nchk (D : FD) (m : Nat) (y : Nat → Int) (many : Int) : Int := if ((m : Nat) : Int) ≠ many then 6 else if anyB (fun j => !D.has (y j)) m = true then 2 else 0
theorem nchk_ok {D : FD} {m : Nat} {y : Nat → Int} {many : Int} (h : D.nchk m y many = 0) : ((m : Nat) : Int) = many ∧ ∀ j, j < m → D.has (y j) = true := by
  unfold FD.nchk at h
  split at h
  · omega
  · split at h
    · omega
    · rename_i h1 h2
      refine ⟨by omega, fun j hj => ?_⟩
      cases e : D.has (y j) with
      | true => rfl
      | false => exact absurd (anyB_yes (p := fun j => !D.has (y j)) (by show (!D.has (y j)) = true; rw [e]; rfl) m hj) h2
end Go.Proofs.Ytbofcldmgjeklab

/- Encode: the sum of the rows of the one form. -/
namespace Go.Proofs.Ytbofcldmgjeklab
open Go.RowKit Go.Sort

theorem zc_lt {D : FD} {my : Nat} {y : Nat → Int} {many : Int} (h : D.nchk my y many = 0) {i : Nat} (hi : i < my) : zc my y i < D.q := by
  obtain ⟨s, e, hs⟩ := has_nat ((nchk_ok h).2 i hi)
  unfold zc; rw [if_pos hi, e, Int.toNat_natCast]; exact hs
end Go.Proofs.Ytbofcldmgjeklab

/- Encoded: the reference's sum of rows. -/
namespace Go.Proofs.Ytbofcldmgjeklab
open Go.RowKit Go.Sort

end Go.Proofs.Ytbofcldmgjeklab

/- Encode: where there is nothing to tell. -/
namespace Go.Proofs.Ytbofcldmgjeklab
open Go.RowKit Go.Sort

end Go.Proofs.Ytbofcldmgjeklab

/- Plain mathematics: products of rows; what makes rows 0. No Go text here. -/
namespace Go.Proofs.Ytbofcldmgjeklab

end Go.Proofs.Ytbofcldmgjeklab

/- WordMay and Dot of the reference. -/
namespace Go.Proofs.Ytbofcldmgjeklab
open Go.RowKit Go.Sort

end Go.Proofs.Ytbofcldmgjeklab

/- Plain mathematics: what makes rows 0 is what the null rows span; the dual of the dual. No Go text here. -/
namespace Go.Proofs.Ytbofcldmgjeklab

end Go.Proofs.Ytbofcldmgjeklab

/- Codes in hand: what was told is handed in again (Sum, Meet, Make, Dual). -/
namespace Go.Proofs.Ytbofcldmgjeklab
open Go.RowKit Go.Sort

/-- A code that can be handed in, of the rows M. -/
def Cod (D : FD) (n : Nat) (ao : Option Addr) (m : Nat) (M : Nat → Nat → Nat) (w : World) : Prop := ∃ A N C Z, CdZ D ao m n A N C Z w ∧ ∀ i, i < m → mzc N Z i = M i
theorem Cod.below {D : FD} {n m : Nat} {ao : Option Addr} {M : Nat → Nat → Nat} {w w' : World} (h : Cod D n ao m M w) (hb : Below w.heap.size w w') : Cod D n ao m M w' := by
  obtain ⟨A, N, C, Z, h1, h2⟩ := h
  exact ⟨A, N, C, Z, h1.below hb, h2⟩
theorem Cod.rows {D : FD} (F : Fld D) {n m : Nat} {ao : Option Addr} {M : Nat → Nat → Nat} {w : World} (h : Cod D n ao m M w) : m ≤ 64 ∧ (1 ≤ n ∧ n ≤ 64) ∧ ∀ i, i < m → El D (M i) ∧ Bd n (M i) := by
  obtain ⟨A, N, C, Z, h1, h2⟩ := h
  obtain ⟨g1, g2, g3, _⟩ := h1.rows F
  exact ⟨g1, ⟨h1.n1, h1.n64⟩, fun i hi => by rw [← h2 i hi]; exact ⟨g2 i hi, g3 i hi⟩⟩
theorem MV.cod {D : FD} {B n k : Nat} {ro : Option Addr} {rc : Nat} {R : Nat → Nat → Nat} {w : World} (h : MV B (.slice ro k rc) k n R w) (hn1 : 1 ≤ n) (hn : n ≤ 64) (hk : k ≤ 64) (he : ∀ i, i < k → El D (R i)) (hb : ∀ i, i < k → Bd n (R i)) : Cod D n ro k R w := by
  obtain ⟨A, C, hc⟩ := (h.rlz (by omega)).cdz (D := D) hn1 hn hk he
  exact ⟨A, _, C, _, hc, fun i hi => mzc_rows hb i hi⟩
theorem Cod.chk {D : FD} (hD : D ∈ fieldsL) {n m : Nat} (ca : Nat) {ao : Option Addr} {M : Nat → Nat → Nat} {w : World} (h : Cod D n ao m M w) (wx : World) (hx : Below w.heap.size w wx) :
    Calls Try.prog 69 #[.agg #[.int .i64 D.q, .int .i64 (n : Nat), .slice ao m ca]] wx fun x w' => x = .returned (.int .i64 0) ∧ Below wx.heap.size wx w' := by
  obtain ⟨A, N, C, Z, h1, _⟩ := h.below hx
  have e : D.cchk (n : Nat) m N Z = 0 := by
    have a1 := h1.n1
    have a2 := h1.n64
    unfold FD.cchk
    rw [if_neg (by omega), h1.chk, if_neg (fun h => h rfl), if_neg]
    rintro ⟨b1, b2⟩
    exact b2 (by rw [h1.wd b1])
  have := ccheck_any hD (ca := ca) (n : Nat) h1.mat (h1.few (fld hD))
  rw [e] at this
  exact this
theorem Red.of_eq {D : FD} {n m k : Nat} {M M' R : Nat → Nat → Nat} (h : Red D n m M k R) (e : ∀ i, i < m → M i = M' i) : Red D n m M' k R := by
  obtain ⟨p, h1, h2⟩ := h
  exact ⟨p, h1, fun v => (h2 v).trans (rows_congr e v)⟩
theorem Cod.make {D : FD} (hD : D ∈ fieldsL) {n m : Nat} (ca : Nat) {ao : Option Addr} {M : Nat → Nat → Nat} {w : World} (h : Cod D n ao m M w) :
    Calls Try.prog 29 #[.agg #[.int .i64 D.q, .int .i64 (n : Nat), .slice ao m ca]] w fun x w' => ∃ k R ro rc, x = .returned (.tuple #[.agg #[.int .i64 D.q, .int .i64 (n : Nat), .slice ro k rc], .int .i64 0]) ∧ (Cod D n ro k R w' ∧ RL (.slice ro k rc) k n R w') ∧ Red D n m M k R ∧ Below w.heap.size w w' := by
  have hr := h.rows (fld hD)
  have hc := h.chk hD ca
  obtain ⟨A, N, C, Z, h1, h2⟩ := h
  refine (cMake_ok hD h1 hc).mono ?_
  rintro x w' ⟨k, R, ro, rc, rfl, hmv, hred, hb⟩
  have hkn := hred.le
  exact ⟨k, R, ro, rc, rfl, ⟨hmv.cod hr.2.1.1 hr.2.1.2 (by omega) hred.rows.1 hred.rows.2, hmv.rl⟩, hred.of_eq h2, hb⟩
theorem Cod.dual {D : FD} (hD : D ∈ fieldsL) {n m : Nat} (ca : Nat) {ao : Option Addr} {M : Nat → Nat → Nat} {w : World} (h : Cod D n ao m M w) :
    Calls Try.prog 25 #[.agg #[.int .i64 D.q, .int .i64 (n : Nat), .slice ao m ca]] w fun x w' => ∃ k R ro rc, x = .returned (.tuple #[.agg #[.int .i64 D.q, .int .i64 (n : Nat), .slice ro k rc], .int .i64 0]) ∧ (Cod D n ro k R w' ∧ RL (.slice ro k rc) k n R w') ∧ Dul D n m M k R ∧ Below w.heap.size w w' := by
  have hr := h.rows (fld hD)
  have hc := h.chk hD ca
  obtain ⟨A, N, C, Z, h1, h2⟩ := h
  refine (cDual_ok hD h1 hc).mono ?_
  rintro x w' ⟨k, R, ro, rc, rfl, hmv, hdu, hb⟩
  have hkn := hdu.le
  exact ⟨k, R, ro, rc, rfl, ⟨hmv.cod hr.2.1.1 hr.2.1.2 (by omega) hdu.rows.1 hdu.rows.2, hmv.rl⟩, hdu.of_spn (fun v => rows_congr h2 v), hb⟩
end Go.Proofs.Ytbofcldmgjeklab

/- Golay's codes: all multiples of a polynomial, turned (the program's cyclic.Of, of a polynomial that divides x^n - 1). -/
namespace Go.Proofs.Ytbofcldmgjeklab
open Go.RowKit Go.Sort

/-- 'copy(out[off:], l)', out a row of the call's own. -/
theorem copy_at {ops : Array Oper} {rest : List Oper} {o : Oper} {a : Act} {w : World} {Q : Exit → Act → World → Prop} (hgd : o.guard = none) (d s : Operand)
    (ho : o.op = .call { callee := .builtin .copy, args := #[d, s], argTypes := #[22, 22] }) (g N off L dc n sc : Nat) (ao : Option Addr)
    (hd : a.eval d = .slice (some ⟨g, off, none⟩) L dc) (hs : a.eval s = .slice ao n sc) (c x : Nat → Nat) (hrow : Row g N c w) (hS : Sl ao n x w) (hn : n ≤ L) (hL : off + L ≤ N)
    (B : Nat) (w0 : World) (hb : Below B w0 w) (hBg : B ≤ g)
    (h : ∀ w', Row g N (fun k => if off ≤ k ∧ k < off + n then x (k - off) else c k) w' → Below B w0 w' → wpList Try.prog ops Q rest (a.put o.dst (goInt n)) w') : wpList Try.prog ops Q (o :: rest) a w := by
  obtain ⟨cap, f, hf, hN, he⟩ := hrow
  obtain ⟨cs, h1, h2, h3⟩ := hf
  obtain ⟨i0, hi, hz0, hz1, hz2⟩ := info_parts Try.infoInt
  have hh : w.heap[g]? = some (.cells cs.toList.toArray 3 (0, 0)) := by simpa using h1
  refine wpList_copy_splice hgd d s 22 22 ho 3 Try.underlying22 (by rw [hi]; simp [hz1]) _ _ L dc n sc hd hs g off cs.toList 3 hh (celL n x) (by rw [celL_len]; exact (Nat.min_eq_left hn).symm) ?_ (by rw [celL_len]; simp; omega) (celL_one n x) B w0 hb hBg ?_
  · intro h0
    rw [celL_len] at h0
    obtain ⟨b, off', rfl, _⟩ := hS 0 h0
    refine ⟨rfl, _, rfl, fun j v hj => ?_⟩
    have hj' : j < n := by
      have := (List.getElem?_eq_some_iff.1 hj).1
      rwa [celL_len] at this
    rw [celL_get n x j hj'] at hj
    cases hj
    obtain ⟨b', off'', e, hc⟩ := hS j hj'
    cases e
    rw [add_off]; exact hc
  · intro w' hg' hb'
    rw [celL_len]
    refine h w' ?_ hb'
    have hlen : (splice cs.toList off (celL n x)).length = cap := by rw [length_splice _ _ _ (by rw [celL_len]; simp; omega)]; simpa using h2
    refine ⟨cap, fun k => if off ≤ k ∧ k < off + n then .int .i64 (x (k - off) : Nat) else f k, ⟨(splice cs.toList off (celL n x)).toArray, hg'.out, by simpa using hlen, fun k hk => ?_⟩, hN, fun k hk => ?_⟩
    · show _ = some (if off ≤ k ∧ k < off + n then _ else f k)
      have hcl : cs.toList.length = cap := by simpa using h2
      unfold splice
      rw [List.getElem?_toArray, celL_len]
      have htl : (cs.toList.take off).length = off := by rw [List.length_take, hcl]; omega
      by_cases e1 : k < off
      · rw [List.getElem?_append_left (by omega), List.getElem?_take_of_lt e1, if_neg (by omega), Array.getElem?_toList, h3 k hk]
      · rw [List.getElem?_append_right (by omega), htl]
        by_cases e : k < off + n
        · rw [List.getElem?_append_left (by rw [celL_len]; omega), celL_get n x (k - off) (by omega), if_pos ⟨by omega, e⟩]
        · rw [List.getElem?_append_right (by rw [celL_len]; omega), celL_len, List.getElem?_drop, show off + n + (k - off - n) = k from by omega, Array.getElem?_toList, h3 k hk, if_neg (by omega)]
    · show (if off ≤ k ∧ k < off + n then _ else f k) = .int .i64 ((if off ≤ k ∧ k < off + n then x (k - off) else c k : Nat) : Int)
      by_cases e : off ≤ k ∧ k < off + n
      · rw [if_pos e, if_pos e]
      · rw [if_neg e, if_neg e]; exact he k hk

end Go.Proofs.Ytbofcldmgjeklab

/- Plain mathematics: how many sets there are; Krawtchouk's numbers. No Go text here. -/
namespace Go.Proofs.Ytbofcldmgjeklab

end Go.Proofs.Ytbofcldmgjeklab

/- Weights: powers and numbers of sets (the program's power, over). -/
namespace Go.Proofs.Ytbofcldmgjeklab
open Go.RowKit

end Go.Proofs.Ytbofcldmgjeklab

/- Weights: Krawtchouk's numbers (the program's krawtchouk). -/
namespace Go.Proofs.Ytbofcldmgjeklab
open Go.RowKit

end Go.Proofs.Ytbofcldmgjeklab

/- Weights: Krawtchouk's numbers (the reference's Kraw). -/
namespace Go.Proofs.Ytbofcldmgjeklab
open Go.RowKit

/-- Whole numbers, below 0 too, in a row of the call's own. -/
def RowZ (g N : Nat) (z : Nat → Int) (w : World) : Prop := ∃ cap f, RowF g cap 3 f w ∧ N ≤ cap ∧ ∀ k, k < N → f k = .int .i64 (z k)
theorem RowZ.of {g N : Nat} {c : Nat → Nat} {w : World} (h : Row g N c w) : RowZ g N (fun k => ((c k : Nat) : Int)) w := by
  obtain ⟨cap, f, h1, h2, h3⟩ := h
  exact ⟨cap, f, h1, h2, h3⟩
theorem RowZ.cell {g N : Nat} {z : Nat → Int} {w : World} (h : RowZ g N z w) (k : Nat) (hk : k < N) : w.cell? ⟨g, k, none⟩ = some (.int .i64 (z k)) := by
  obtain ⟨cap, f, h1, h2, h3⟩ := h
  rw [h1.cell k (by omega), h3 k hk]
theorem RowZ.free {g N : Nat} {z : Nat → Int} {w : World} (h : RowZ g N z w) (k : Nat) : w.frozen? ⟨g, k, none⟩ = false := by
  obtain ⟨cap, f, h1, h2, h3⟩ := h
  exact h1.free k
theorem RowZ.store {g N : Nat} {z y : Nat → Int} {w : World} (h : RowZ g N z w) (k : Nat) (v : Int) (hd : ∀ j, j < N → y j = if j = k then v else z j) : RowZ g N y (w.setCell ⟨g, k, none⟩ (.int .i64 v)) := by
  obtain ⟨cap, f, h1, h2, h3⟩ := h
  refine ⟨cap, _, h1.store k _, h2, fun j hj => ?_⟩
  unfold upd
  rw [hd j hj]
  by_cases e : j = k
  · rw [if_pos e, if_pos e]
  · rw [if_neg e, if_neg e, h3 j hj]
theorem RowZ.congr {g N : Nat} {z y : Nat → Int} {w : World} (h : RowZ g N z w) (e : ∀ k, k < N → z k = y k) : RowZ g N y w := by
  obtain ⟨cap, f, h1, h2, h3⟩ := h
  exact ⟨cap, f, h1, h2, fun k hk => by rw [h3 k hk, e k hk]⟩
theorem RowZ.below {g N B : Nat} {z : Nat → Int} {w w' : World} (h : RowZ g N z w) (hb : Below B w w') (hB : g < B) : RowZ g N z w' := by
  obtain ⟨cap, f, h1, h2, h3⟩ := h
  exact ⟨cap, f, h1.below hb hB, h2, h3⟩
end Go.Proofs.Ytbofcldmgjeklab

/- Plain mathematics: sets that are great and meet little are few (Johnson). No Go text here. -/
namespace Go.Proofs.Ytbofcldmgjeklab

theorem ct_mono {p p' : Nat → Bool} : ∀ n, (∀ i, i < n → p i = true → p' i = true) → ct p n ≤ ct p' n
  | 0, _ => Nat.le_refl _
  | n + 1, h => by
    have h1 := ct_mono n (fun i hi => h i (by omega))
    have h2 := h n (by omega)
    show ct p n + (if p n = true then 1 else 0) ≤ ct p' n + if p' n = true then 1 else 0
    by_cases e : p n = true
    · rw [if_pos e, if_pos (h2 e)]; omega
    · rw [if_neg e]; omega
end Go.Proofs.Ytbofcldmgjeklab

/- Plain mathematics of Sudan's sum: a message that agrees at many places makes it nought. No Go text here. -/
namespace Go.Proofs.Ytbofcldmgjeklab
open Go.RowKit Go.Sort

/-- Horner's way. -/
def hrn (D : FD) (A : Nat → Nat) (y m : Nat) : Nat → Nat
  | 0 => 0
  | r + 1 => D.ad (D.mul (hrn D A y m r) y) (A (m - 1 - r))
end Go.Proofs.Ytbofcldmgjeklab

/- Plain mathematics of Sudan's sum, second part: the curve of a message that agrees at t places is nought. No Go text here. -/
namespace Go.Proofs.Ytbofcldmgjeklab
open Go.RowKit Go.Sort

end Go.Proofs.Ytbofcldmgjeklab
