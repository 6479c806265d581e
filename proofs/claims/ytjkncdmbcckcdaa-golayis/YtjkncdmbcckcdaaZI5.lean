/- Texts of ours, one behind the other: I5 I6 I7 I8 I9 I10 I11 I12 I13 I14 I15. -/
import Derived.Test.YtjkncdmbcckcdaaZI1
import Derived.Test.YtjkncdmbcckcdaaZU4
import Derived.Test.YtjkncdmbcckcdaaZX18
import Derived.Test.YtjkncdmbcckcdaaZX14
/- Codes: the rows that tell one place each (unit), and the dual. -/
namespace Go.Proofs.Ytjkncdmbcckcdaa
open Go.RowKit Go.Sort

end Go.Proofs.Ytjkncdmbcckcdaa

/- Codes: a word, and another one so many times (span.Plus). -/
namespace Go.Proofs.Ytjkncdmbcckcdaa
open Go.RowKit Go.Sort

end Go.Proofs.Ytjkncdmbcckcdaa

/- Sums of codes: plain mathematics. -/
namespace Go.Proofs.Ytjkncdmbcckcdaa
open Go.RowKit

end Go.Proofs.Ytjkncdmbcckcdaa

/- Sums of codes: what is left of rows (the program's sum), its state. -/
namespace Go.Proofs.Ytjkncdmbcckcdaa
open Go.RowKit Go.Sort

/-- Of the M lists in block G the first i are the rows V, of n elements, wherever they lie. -/
structure RS (D : FD) (G M n i : Nat) (V : Nat → Nat → Nat) (X : Nat → Option Addr) (C : Nat → Nat) (w : World) : Prop where
  outer : ∃ f, RowF G M 22 f w ∧ ∀ a, a < i → f a = .slice (X a) n (C a)
  sl : ∀ a, a < i → Sl (X a) n (V a) w
  lt : ∀ a, a < i → LtB (X a) w.heap.size
  nil : ∀ a, a < i → X a = none → C a = 0
  le : ∀ a, a < i → n ≤ C a
  cap : ∀ a, a < i → C a ≤ 9223372036854775807
  ne : ∀ a, a < i → ∀ x, X a = some x → x.block ≠ G
  el : ∀ a, a < i → El D (V a)
theorem RS.below {D : FD} {G M n i : Nat} {V : Nat → Nat → Nat} {X : Nat → Option Addr} {C : Nat → Nat} {w w' : World} (h : RS D G M n i V X C w) (hb : Below w.heap.size w w') : RS D G M n i V X C w' := by
  obtain ⟨f, hf, hf'⟩ := h.outer
  exact ⟨⟨f, hf.below hb hf.lt, hf'⟩, fun a ha => (h.sl a ha).below hb (h.lt a ha), fun a ha => (h.lt a ha).mono hb.size, h.nil, h.le, h.cap, h.ne, h.el⟩
theorem RS.cell {D : FD} {G M n i : Nat} {V : Nat → Nat → Nat} {X : Nat → Option Addr} {C : Nat → Nat} {w : World} (h : RS D G M n i V X C w) (a : Nat) (ha : a < i) (hM : i ≤ M) : w.cell? ⟨G, a, none⟩ = some (.slice (X a) n (C a)) ∧ w.frozen? ⟨G, a, none⟩ = false := by
  obtain ⟨f, hf, hf'⟩ := h.outer
  exact ⟨by rw [hf.cell a (by omega), hf' a ha], hf.free a⟩
theorem RS.free {D : FD} {G M n i : Nat} {V : Nat → Nat → Nat} {X : Nat → Option Addr} {C : Nat → Nat} {w : World} (h : RS D G M n i V X C w) (a : Nat) (ha : a < M) : (∃ u, w.cell? ⟨G, a, none⟩ = some u) ∧ w.frozen? ⟨G, a, none⟩ = false := by
  obtain ⟨f, hf, hf'⟩ := h.outer
  exact ⟨⟨_, hf.cell a ha⟩, hf.free a⟩
theorem RS.ltG {D : FD} {G M n i : Nat} {V : Nat → Nat → Nat} {X : Nat → Option Addr} {C : Nat → Nat} {w : World} (h : RS D G M n i V X C w) : G < w.heap.size := by
  obtain ⟨f, hf, _⟩ := h.outer
  exact hf.lt
theorem sl_set {ao : Option Addr} {n : Nat} {c : Nat → Nat} {w : World} {G a : Nat} {u : Value} (h : Sl ao n c w) (hne : ∀ x, ao = some x → x.block ≠ G) : Sl ao n c (w.setCell ⟨G, a, none⟩ u) := fun j hj => by
  obtain ⟨b, off, e, hc⟩ := h j hj
  refine ⟨b, off, e, ?_⟩
  have hb : b ≠ G := hne _ e
  have := Below.heap_setCell w ⟨G, a, none⟩ u b hb
  have e2 : (w.setCell ⟨G, a, none⟩ u).cell? ⟨b, off + j, none⟩ = w.cell? ⟨b, off + j, none⟩ := by simp [World.cell?, this]
  exact e2.trans hc
/-- List a0 is another one now. -/
theorem RS.put {D : FD} {G M n i i' a0 : Nat} {V : Nat → Nat → Nat} {X : Nat → Option Addr} {C : Nat → Nat} {w : World} (h : RS D G M n i V X C w) (hi : ∀ a, a < i' → a ≠ a0 → a < i) {x : Option Addr} {cc : Nat} {v : Nat → Nat} (hsl : Sl x n v w) (hlt : LtB x w.heap.size) (hnil : x = none → cc = 0) (hle : n ≤ cc) (hcap : cc ≤ 9223372036854775807) (hne : ∀ y, x = some y → y.block ≠ G) (hel : El D v) :
    RS D G M n i' (fun a => if a = a0 then v else V a) (fun a => if a = a0 then x else X a) (fun a => if a = a0 then cc else C a) (w.setCell ⟨G, a0, none⟩ (.slice x n cc)) := by
  obtain ⟨f, hf, hf'⟩ := h.outer
  have hsz : (w.setCell ⟨G, a0, none⟩ (.slice x n cc)).heap.size = w.heap.size := by simp
  refine ⟨⟨_, hf.store a0 (.slice x n cc), fun a ha => ?_⟩, fun a ha => ?_, fun a ha => ?_, fun a ha => ?_, fun a ha => ?_, fun a ha => ?_, fun a ha => ?_, fun a ha => ?_⟩
  · by_cases e : a = a0
    · rw [e, upd_at]; simp only [if_true]
    · simp only [if_neg e]
      rw [upd_ne _ _ _ e]; exact hf' a (hi a ha e)
  · by_cases e : a = a0
    · simp only [if_pos e]; exact sl_set hsl hne
    · simp only [if_neg e]; exact sl_set (h.sl a (hi a ha e)) (h.ne a (hi a ha e))
  · by_cases e : a = a0
    · simp only [if_pos e]; rw [hsz]; exact hlt
    · simp only [if_neg e]; rw [hsz]; exact h.lt a (hi a ha e)
  · by_cases e : a = a0
    · simp only [if_pos e]; exact hnil
    · simp only [if_neg e]; exact h.nil a (hi a ha e)
  · by_cases e : a = a0
    · simp only [if_pos e]; exact hle
    · simp only [if_neg e]; exact h.le a (hi a ha e)
  · by_cases e : a = a0
    · simp only [if_pos e]; exact hcap
    · simp only [if_neg e]; exact h.cap a (hi a ha e)
  · by_cases e : a = a0
    · simp only [if_pos e]; exact hne
    · simp only [if_neg e]; exact h.ne a (hi a ha e)
  · by_cases e : a = a0
    · simp only [if_pos e]; exact hel
    · simp only [if_neg e]; exact h.el a (hi a ha e)
theorem RS.matZ {D : FD} {G M n : Nat} {V : Nat → Nat → Nat} {X : Nat → Option Addr} {C : Nat → Nat} {w : World} (h : RS D G M n M V X C w) (hn : n ≤ 64) : MatZ (some ⟨G, 0, none⟩) M X (fun _ => n) C (fun i j => ((V i j : Nat) : Int)) w :=
  ⟨fun i hi => ⟨G, 0, rfl, by rw [Nat.zero_add]; exact (h.cell i hi (Nat.le_refl _)).1⟩, h.sl, h.le, h.cap, h.nil, fun _ _ => by omega⟩
theorem RS.cdz {D : FD} {G M n : Nat} {V : Nat → Nat → Nat} {X : Nat → Option Addr} {C : Nat → Nat} {w : World} (h : RS D G M n M V X C w) (hn1 : 1 ≤ n) (hn : n ≤ 64) (hM : M ≤ 64) : CdZ D (some ⟨G, 0, none⟩) M n X (fun _ => n) C (fun i j => ((V i j : Nat) : Int)) w := by
  refine ⟨h.matZ hn, mchk_of hM (fun i hi => ?_), fun _ => rfl, hn1, hn⟩
  unfold FD.mrow
  rw [if_neg (by omega), if_neg (by omega), if_pos]
  exact allHas_iff.2 (fun j _ => has_of_lt (h.el i hi j))
/-- A row that a matrix has, told as it lies. -/
theorem CdZ.row {D : FD} (F : Fld D) {ao : Option Addr} {m n : Nat} {A : Nat → Option Addr} {N C : Nat → Nat} {Z : Nat → Nat → Int} {w : World} (h : CdZ D ao m n A N C Z w) (i : Nat) (hi : i < m) : ∃ b off c, ao = some ⟨b, off, none⟩ ∧ w.cell? ⟨b, off + i, none⟩ = some (.slice (A i) n c) ∧ Sl (A i) n (mzc N Z i) w ∧ LtB (A i) w.heap.size ∧ (A i = none → c = 0) ∧ n ≤ c ∧ c ≤ 9223372036854775807 := by
  obtain ⟨_, _, _, hm⟩ := h.rows F
  have hn := h.n1
  obtain ⟨b, off, u, e, hc, A', ca', eu, hs, hl, h1, h2, h3⟩ := hm i hi
  obtain ⟨b', off', e', hc'⟩ := h.mat.cell i hi
  rw [e] at e'
  cases e'
  rw [hc, eu] at hc'
  have hc2 := Option.some.inj hc'
  simp only [Value.slice.injEq] at hc2
  obtain ⟨rfl, _, _⟩ := hc2
  rw [show n - 1 + 1 = n from by omega] at eu hs h2
  exact ⟨b, off, ca', e, by rw [hc, eu], hs, hl, h1, h2, h3⟩
end Go.Proofs.Ytjkncdmbcckcdaa

/- Sums of codes: the program's sum. -/
namespace Go.Proofs.Ytjkncdmbcckcdaa
open Go.RowKit Go.Sort

end Go.Proofs.Ytjkncdmbcckcdaa

/- Sums of codes and what both have: the program's checkBoth, Sum, Meet. -/
namespace Go.Proofs.Ytjkncdmbcckcdaa
open Go.RowKit Go.Sort

theorem two_boxes (qa na qb nb : Int) (va vb : Value) (w : World) : Below w.heap.size w ((w.alloc (.cells #[.int .i64 qa, .int .i64 na, va] 49)).alloc (.cells #[.int .i64 qb, .int .i64 nb, vb] 49)) ∧ CB w.heap.size qa na va ((w.alloc (.cells #[.int .i64 qa, .int .i64 na, va] 49)).alloc (.cells #[.int .i64 qb, .int .i64 nb, vb] 49)) ∧ CB (w.heap.size + 1) qb nb vb ((w.alloc (.cells #[.int .i64 qa, .int .i64 na, va] 49)).alloc (.cells #[.int .i64 qb, .int .i64 nb, vb] 49)) ∧ ((w.alloc (.cells #[.int .i64 qa, .int .i64 na, va] 49)).alloc (.cells #[.int .i64 qb, .int .i64 nb, vb] 49)).heap.size = w.heap.size + 2 := by
  have hs1 : (w.alloc (.cells #[.int .i64 qa, .int .i64 na, va] 49)).heap.size = w.heap.size + 1 := by simp
  have h1 := CB.new qa na va w
  have h2 := CB.new qb nb vb (w.alloc (.cells #[.int .i64 qa, .int .i64 na, va] 49))
  have b1 : Below (w.alloc (.cells #[.int .i64 qa, .int .i64 na, va] 49)).heap.size (w.alloc (.cells #[.int .i64 qa, .int .i64 na, va] 49)) ((w.alloc (.cells #[.int .i64 qa, .int .i64 na, va] 49)).alloc (.cells #[.int .i64 qb, .int .i64 nb, vb] 49)) := (Below.refl _ _).alloc (Nat.le_refl _) _
  rw [hs1] at h2
  exact ⟨bel_up' ((Below.refl _ _).alloc (Nat.le_refl _) _) b1, h1.keep b1, h2, by simp⟩

end Go.Proofs.Ytjkncdmbcckcdaa

/- Sums of codes and what both have: the program's Sum and Meet of codes that may be. -/
namespace Go.Proofs.Ytjkncdmbcckcdaa
open Go.RowKit Go.Sort

end Go.Proofs.Ytjkncdmbcckcdaa

/- Codes: one form and the dual, of the reference (Made, DualOf). -/
namespace Go.Proofs.Ytjkncdmbcckcdaa
open Go.RowKit Go.Sort

/-- Block b holds a code's cells. -/
def RBt (b : Nat) (w : World) : Prop := ∃ cs, w.heap[b]? = some (.cells cs 49 (0, 0))
theorem RBt.new (cs : Array Value) (w : World) : RBt w.heap.size (w.alloc (.cells cs 49)) := ⟨cs, two_new _⟩
theorem RBt.keep {b : Nat} {w w' : World} (h : RBt b w) (hb : Below w.heap.size w w') : RBt b w' := by
  obtain ⟨cs, h⟩ := h
  exact ⟨cs, by rw [hb.block b (lt_of_block h)]; exact h⟩
theorem Row.notCode {g N b : Nat} {c : Nat → Nat} {w : World} (h : Row g N c w) (ht : RBt b w) : g ≠ b := by
  obtain ⟨cap, f, ⟨cs, h1, _⟩, _⟩ := h
  obtain ⟨ds, h2⟩ := ht
  intro e
  rw [e, h2] at h1
  simp at h1
theorem OwnV.notCode {base b : Nat} {v : Value} {l : List Value} {w : World} (h : OwnV base v l w) (ht : RBt b w) : ∀ g, v.ownBlock = some g → g ≠ b := by
  intro g hg e
  rcases h.2 with ⟨h1, _⟩ | ⟨g', cap, cur, hv, _, hh, _⟩
  · rw [h1] at hg; cases hg
  · rw [hv] at hg
    have hg : some g' = some g := hg
    cases hg
    obtain ⟨ds, h2⟩ := ht
    rw [e, h2] at hh
    simp at hh
theorem OwnV.same {base : Nat} {v : Value} {l : List Value} {w w' : World} (h : OwnV base v l w) (hb : ∀ g, v.ownBlock = some g → w'.heap[g]? = w.heap[g]?) : OwnV base v l w' := by
  obtain ⟨h1, h2⟩ := h
  refine ⟨h1, ?_⟩
  rcases h2 with h2 | ⟨g, cap, cur, hv, hg, hh, r⟩
  · exact Or.inl h2
  · exact Or.inr ⟨g, cap, cur, hv, hg, by rw [hb g (by rw [hv]; rfl)]; exact hh, r⟩
theorem LLs.slc {base : Nat} {v : Value} {L : List (Nat × (Nat → Nat))} {w : World} (h : LLs base v L w) : ∃ ao cap, v = .slice ao L.length cap := by
  obtain ⟨l, h1, h2⟩ := h
  obtain ⟨ao, cap, e, _⟩ := h1.open
  rw [h2.1] at e
  exact ⟨ao, cap, e⟩
theorem LLs.laid {base b : Nat} {v : Value} {L : List (Nat × (Nat → Nat))} {w : World} (h : LLs base v L w) (ht : RBt b w) (q n : Int) (u : Value) : LLs base v L (laid w b q n u) := by
  obtain ⟨l, h1, h2⟩ := h
  refine ⟨l, h1.same (fun g hg => laid_heap w b q n u (h1.notCode ht g hg)), h2.1, fun j x p hx hp => ?_⟩
  obtain ⟨g, cap, e, a1, a2, hr⟩ := h2.2 j x p hx hp
  exact ⟨g, cap, e, a1, a2, hr.other (laid_heap w b q n u (hr.notCode ht))⟩

set_option maxHeartbeats 4000000 in
set_option maxRecDepth 100000 in
theorem made_any {D : FD} (hD : D ∈ fieldsL) {ao : Option Addr} {m n n1 ca : Nat} {M : Nat → Nat → Nat} {w : World} (hm : m ≤ 1000) (hn : n ≤ 64) (hnn : n = n1 + 1) (hel : ∀ i, i < m → El D (M i) ∧ Bd (n1 + 1) (M i)) (hA : MatR ao m n1 M w) :
    Calls Try.prog 111 #[.agg #[.int .i64 D.q, .int .i64 (n : Nat), .slice ao m ca]] w fun e w' => ∃ k R ro rc, e = .returned (.agg #[.int .i64 D.q, .int .i64 (n : Nat), .slice ro k rc]) ∧ LLs w.heap.size (.slice ro k rc) (rl k n1 R) w' ∧ Red D n m M k R ∧ Below w.heap.size w w' := by
  obtain ⟨w0, hw0⟩ : ∃ w0, w0 = (w.alloc (.cells #[.int .i64 D.q, .int .i64 (n : Nat), .slice ao m ca] 49)).alloc (.cells #[.int .i64 0, .int .i64 0, .slice none 0 0] 49) := ⟨_, rfl⟩
  have HW : Hid (Below w.heap.size w w0 ∧ CB w.heap.size D.q n (.slice ao m ca) w0 ∧ RB (w.heap.size + 1) w0 ∧ RBt (w.heap.size + 1) w0 ∧ w0.heap.size = w.heap.size + 2) := by
    obtain ⟨h1, h2, _, h4⟩ := two_boxes D.q n 0 0 (.slice ao m ca) (.slice none 0 0) w
    have hs1 : (w.alloc (.cells #[.int .i64 D.q, .int .i64 (n : Nat), .slice ao m ca] 49)).heap.size = w.heap.size + 1 := by simp
    have h5 := RB.new (.int .i64 0) (.int .i64 0) (.slice none 0 0) (w.alloc (.cells #[.int .i64 D.q, .int .i64 (n : Nat), .slice ao m ca] 49))
    have h6 := RBt.new #[.int .i64 0, .int .i64 0, .slice none 0 0] (w.alloc (.cells #[.int .i64 D.q, .int .i64 (n : Nat), .slice ao m ca] 49))
    rw [hs1] at h5 h6
    rw [hw0]; exact ⟨h1, h2, h5, h6, h4⟩
  have HA : Hid (D ∈ fieldsL ∧ (∀ i, i < m → El D (M i) ∧ Bd (n1 + 1) (M i)) ∧ MatR ao m n1 M w ∧ n = n1 + 1) := ⟨hD, hel, hA, hnn⟩
  have hn1 : n1 ≤ 900 := by omega
  clear hD hel hA hnn
  go_enter Try.func111, Try.ntmps111
  go_wp2_with fail
  rw [← hw0]
  clear hw0
  refine (rfield_sl HA.out.1 w0).mono ?_
  rintro e w1 ⟨gm, cm, rfl, hmod, hb1⟩
  unfold rf
  obtain ⟨wb, hwb⟩ : ∃ wb, wb = w1.alloc (.cells #[.int .i64 D.q, .int .i64 D.p, .int .i64 D.m, .int .i64 D.gen, .slice (some ⟨gm, 0, none⟩) (D.m + 1) cm] 27) := ⟨_, rfl⟩
  have hbb : Below w1.heap.size w1 wb := by rw [hwb]; exact (Below.refl _ _).alloc (Nat.le_refl _) _
  have H1 : Hid (Below w.heap.size w wb ∧ CB w.heap.size D.q n (.slice ao m ca) wb ∧ RB (w.heap.size + 1) wb ∧ RBt (w.heap.size + 1) wb ∧ ModAt D (.slice (some ⟨gm, 0, none⟩) (D.m + 1) cm) D.md wb ∧ w.heap.size + 2 ≤ wb.heap.size) := by
    have hb2 := bel_up' hb1 hbb
    exact ⟨bel_up' HW.out.1 hb2, HW.out.2.1.keep hb2, HW.out.2.2.1.keep hb2, HW.out.2.2.2.1.keep hb2, hmod.below hbb, by have := hb2.size; have := HW.out.2.2.2.2; omega⟩
  have hcb1 := HW.out.2.1.keep hb1
  obtain ⟨a0, a1, a2⟩ := hcb1
  have hlt := cell_lt a0
  have hlt : w.heap.size < w1.heap.size := hlt
  clear hmod hb1 hbb
  go_wp2_with fail
  rw [← hwb]
  clear hwb a0 a1 a2
  refine (rreduce_any HA.out.1 D.gen gm cm hm (by omega) HA.out.2.1 (HA.out.2.2.1.below H1.out.1) H1.out.2.2.2.2.1).mono ?_
  rintro e w2 ⟨vr, vp, k, R, p, rfl, hk, hvr, hvp, hre, hsp, _, hb2⟩
  obtain ⟨ro, rc, hv⟩ := hvr.slc
  rw [rl_len] at hv
  subst hv
  have H2 : Hid (LLs wb.heap.size (.slice ro k rc) (rl k n1 R) w2 ∧ Red D n m M k R ∧ Below w.heap.size w w2 ∧ CB w.heap.size D.q n (.slice ao m ca) w2 ∧ RB (w.heap.size + 1) w2 ∧ RBt (w.heap.size + 1) w2) := by
    refine ⟨hvr, ⟨p, ?_, hsp⟩, bel_up' H1.out.1 hb2, H1.out.2.1.keep hb2, H1.out.2.2.1.keep hb2, H1.out.2.2.2.1.keep hb2⟩
    rw [HA.out.2.2.2]; exact hre
  clear hk hvr hvp hre hsp hb2
  have hcb2 := H2.out.2.2.2.1
  obtain ⟨a0, a1, a2⟩ := hcb2
  obtain ⟨⟨x0, c0⟩, ⟨x1, c1⟩, ⟨x2, c2⟩, f0, f1, f2⟩ := H2.out.2.2.2.2.1
  go_wp2
  obtain ⟨w3, hw3⟩ : ∃ w3, w3 = laid w2 (w.heap.size + 1) D.q n (.slice ro k rc) := ⟨_, rfl⟩
  have H3 : Hid (CB (w.heap.size + 1) D.q n (.slice ro k rc) w3 ∧ LLs w.heap.size (.slice ro k rc) (rl k n1 R) w3 ∧ Below w.heap.size w w3) := by
    have := H1.out.2.2.2.2.2
    rw [hw3]; exact ⟨laid_cb H2.out.2.2.2.2.1 _ _ _, (H2.out.1.laid H2.out.2.2.2.2.2 _ _ _).mono (by omega), laid_below H2.out.2.2.1 (by omega) _ _ _⟩
  unfold laid at hw3
  rw [← hw3]
  clear hw3 c0 c1 c2 f0 f1 f2 a0 a1 a2
  obtain ⟨c0, c1, c2⟩ := H3.out.1
  refine bodyPost_ret (v := .agg #[.int .i64 D.q, .int .i64 (n : Nat), .slice ro k rc]) (by simp [results, Try.results111, go_sem, c0, c1, c2]) rfl ?_
  exact ⟨_, R, _, _, rfl, H3.out.2.1, H2.out.2.1, H3.out.2.2⟩
end Go.Proofs.Ytjkncdmbcckcdaa

/- Codes: rows of two codes in one list; what both have, of the reference (Both). -/
namespace Go.Proofs.Ytjkncdmbcckcdaa
open Go.RowKit Go.Sort

theorem MatR.vals {ao : Option Addr} {m n : Nat} {M : Nat → Nat → Nat} {w : World} (h : MatR ao m n M w) : ∃ va : Nat → Value, SlV ao m va w ∧ ∀ i, i < m → Rwv (va i) n (M i) w ∧ (va i).oneCell' = true := by
  have h' : ∀ i, ∃ u : Value, i < m → (∃ b off, ao = some ⟨b, off, none⟩ ∧ w.cell? ⟨b, off + i, none⟩ = some u) ∧ Rwv u n (M i) w := fun i => by
    by_cases hi : i < m
    · obtain ⟨b, off, u, h1, h2, h3⟩ := h i hi
      exact ⟨u, fun _ => ⟨⟨b, off, h1, h2⟩, h3⟩⟩
    · exact ⟨undef, fun x => absurd x hi⟩
  obtain ⟨va, hva⟩ := Classical.axiomOfChoice h'
  refine ⟨va, fun i hi => (hva i hi).1, fun i hi => ⟨(hva i hi).2, ?_⟩⟩
  obtain ⟨A, ca, e, _⟩ := (hva i hi).2
  rw [e]; rfl
theorem Rwv.keep {u : Value} {n : Nat} {c : Nat → Nat} {w w' : World} (h : Rwv u n c w) (hb : Below w.heap.size w w') : Rwv u n c w' := by
  obtain ⟨A, ca, e, hs, hl, h1, h2, h3⟩ := h
  exact ⟨A, ca, e, hs.below hb hl, hl.mono hb.size, h1, h2, h3⟩
theorem LLs.matR' {base k n : Nat} {ro : Option Addr} {rc : Nat} {R : Nat → Nat → Nat} {w : World} (h : LLs base (.slice ro k rc) (Go.Proofs.Ytjkncdmbcckcdaa.rl k n R) w) : MatR ro k n R w ∧ (ro = none → rc = 0) := by
  obtain ⟨ro', rc', vs, e, hw⟩ := h.rws
  cases e
  exact ⟨hw.matR, hw.nil⟩
end Go.Proofs.Ytjkncdmbcckcdaa

/- CodePairs: codes held against one another; the ways on which there is nothing. -/
namespace Go.Proofs.Ytjkncdmbcckcdaa
open Go.RowKit Go.Sort

set_option maxHeartbeats 4000000 in
set_option maxRecDepth 100000 in
theorem rsameCode_any (q n : Int) {ao bo : Option Addr} {k n' ca cb : Nat} {R : Nat → Nat → Nat} {w : World} (ha : RL (.slice ao k ca) k n' R w) (hb : RL (.slice bo k cb) k n' R w) (hk : k ≤ 1000000) (hn : n' ≤ 1000000) :
    Calls Try.prog 24 #[.agg #[.int .i64 q, .int .i64 n, .slice ao k ca], .agg #[.int .i64 q, .int .i64 n, .slice bo k cb]] w fun e w' => e = .returned (.bool true) ∧ Below w.heap.size w w' := by
  obtain ⟨w0, hw0⟩ : ∃ w0, w0 = (w.alloc (.cells #[.int .i64 q, .int .i64 n, .slice ao k ca] 49)).alloc (.cells #[.int .i64 q, .int .i64 n, .slice bo k cb] 49) := ⟨_, rfl⟩
  have HW : Hid (Below w.heap.size w w0 ∧ RL (.slice ao k ca) k n' R w0 ∧ RL (.slice bo k cb) k n' R w0) := by
    obtain ⟨h1, _, _, _⟩ := two_boxes q n q n (.slice ao k ca) (.slice bo k cb) w
    rw [hw0]; exact ⟨h1, ha.below h1, hb.below h1⟩
  clear ha hb
  go_enter Try.func24, Try.ntmps24
  go_wp2_with fail
  rw [← hw0]
  clear hw0
  refine (sameAll_rl HW.out.2.1 HW.out.2.2 hk hn).mono ?_
  rintro e w1 ⟨rfl, d, hw1⟩
  have H1 : Hid (Below w.heap.size w w1) := by rw [hw1]; exact below_drewN2 HW.out.1 d
  clear hw1
  go_wp2
  go_ret
  exact ⟨rfl, H1.out⟩
end Go.Proofs.Ytjkncdmbcckcdaa

/- CodePairs: the way of an error. -/
namespace Go.Proofs.Ytjkncdmbcckcdaa
open Go.RowKit Go.Sort

end Go.Proofs.Ytjkncdmbcckcdaa
