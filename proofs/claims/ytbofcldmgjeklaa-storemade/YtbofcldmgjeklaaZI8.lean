/- Texts of ours, one behind the other: I8 I9 I10 I11 I12 I13 I14 I15 I16 I18 I19 I20 I21 I22 I23 S12 I24 S13 K7 G2 S20 KA1 KA2. -/
import Derived.Test.YtbofcldmgjeklaaZQ5
import Derived.Test.YtbofcldmgjeklaaZY5
import Derived.Test.YtbofcldmgjeklaaZX12
import Derived.Test.YtbofcldmgjeklaaZO3
import Derived.Test.YtbofcldmgjeklaaZU6
import Derived.Test.YtbofcldmgjeklaaZV7
import Derived.Test.YtbofcldmgjeklaaZA1
import Derived.Test.YtbofcldmgjeklaaZR3
import Derived.Test.YtbofcldmgjeklaaZM3
/- Sums of codes: what is left of rows (the program's sum), its state. -/
namespace Go.Proofs.Ytbofcldmgjeklaa
open Go.RowKit Go.Sort

/-- Of the M lists in block G the first i are the rows V, of n elements, wherever they lie. -/
structure RS (D : FD) (G M n i : Nat) (V : Nat → Nat → Nat) (X : Nat → Option Addr) (C : Nat → Nat) (w : World) : Prop where
  outer : ∃ f, RowF G M 22 f w ∧ ∀ a, a < i → f a = .slice (X a) n (C a)
  sl : ∀ a, a < i → Sl (X a) n (V a) w
  lt : ∀ a, a < i → LtB (X a) w.heap.size
  nil : ∀ a, a < i → X a = none → C a = 0
  le : ∀ a, a < i → n ≤ C a
  cap : ∀ a, a < i → C a ≤ 9223372036854775807
  ne : ∀ a, a < i → ∀ x, X a = some x → x.block ≠ G
  el : ∀ a, a < i → El D (V a)
theorem RS.below {D : FD} {G M n i : Nat} {V : Nat → Nat → Nat} {X : Nat → Option Addr} {C : Nat → Nat} {w w' : World} (h : RS D G M n i V X C w) (hb : Below w.heap.size w w') : RS D G M n i V X C w' := by
  obtain ⟨f, hf, hf'⟩ := h.outer
  exact ⟨⟨f, hf.below hb hf.lt, hf'⟩, fun a ha => (h.sl a ha).below hb (h.lt a ha), fun a ha => (h.lt a ha).mono hb.size, h.nil, h.le, h.cap, h.ne, h.el⟩
theorem RS.cell {D : FD} {G M n i : Nat} {V : Nat → Nat → Nat} {X : Nat → Option Addr} {C : Nat → Nat} {w : World} (h : RS D G M n i V X C w) (a : Nat) (ha : a < i) (hM : i ≤ M) : w.cell? ⟨G, a, none⟩ = some (.slice (X a) n (C a)) ∧ w.frozen? ⟨G, a, none⟩ = false := by
  obtain ⟨f, hf, hf'⟩ := h.outer
  exact ⟨by rw [hf.cell a (by omega), hf' a ha], hf.free a⟩
theorem RS.free {D : FD} {G M n i : Nat} {V : Nat → Nat → Nat} {X : Nat → Option Addr} {C : Nat → Nat} {w : World} (h : RS D G M n i V X C w) (a : Nat) (ha : a < M) : (∃ u, w.cell? ⟨G, a, none⟩ = some u) ∧ w.frozen? ⟨G, a, none⟩ = false := by
  obtain ⟨f, hf, hf'⟩ := h.outer
  exact ⟨⟨_, hf.cell a ha⟩, hf.free a⟩
theorem RS.ltG {D : FD} {G M n i : Nat} {V : Nat → Nat → Nat} {X : Nat → Option Addr} {C : Nat → Nat} {w : World} (h : RS D G M n i V X C w) : G < w.heap.size := by
  obtain ⟨f, hf, _⟩ := h.outer
  exact hf.lt
theorem sl_set {ao : Option Addr} {n : Nat} {c : Nat → Nat} {w : World} {G a : Nat} {u : Value} (h : Sl ao n c w) (hne : ∀ x, ao = some x → x.block ≠ G) : Sl ao n c (w.setCell ⟨G, a, none⟩ u) := fun j hj => by
  obtain ⟨b, off, e, hc⟩ := h j hj
  refine ⟨b, off, e, ?_⟩
  have hb : b ≠ G := hne _ e
  have := Below.heap_setCell w ⟨G, a, none⟩ u b hb
  have e2 : (w.setCell ⟨G, a, none⟩ u).cell? ⟨b, off + j, none⟩ = w.cell? ⟨b, off + j, none⟩ := by simp [World.cell?, this]
  exact e2.trans hc
/-- List a0 is another one now. -/
theorem RS.put {D : FD} {G M n i i' a0 : Nat} {V : Nat → Nat → Nat} {X : Nat → Option Addr} {C : Nat → Nat} {w : World} (h : RS D G M n i V X C w) (hi : ∀ a, a < i' → a ≠ a0 → a < i) {x : Option Addr} {cc : Nat} {v : Nat → Nat} (hsl : Sl x n v w) (hlt : LtB x w.heap.size) (hnil : x = none → cc = 0) (hle : n ≤ cc) (hcap : cc ≤ 9223372036854775807) (hne : ∀ y, x = some y → y.block ≠ G) (hel : El D v) :
    RS D G M n i' (fun a => if a = a0 then v else V a) (fun a => if a = a0 then x else X a) (fun a => if a = a0 then cc else C a) (w.setCell ⟨G, a0, none⟩ (.slice x n cc)) := by
  obtain ⟨f, hf, hf'⟩ := h.outer
  have hsz : (w.setCell ⟨G, a0, none⟩ (.slice x n cc)).heap.size = w.heap.size := by simp
  refine ⟨⟨_, hf.store a0 (.slice x n cc), fun a ha => ?_⟩, fun a ha => ?_, fun a ha => ?_, fun a ha => ?_, fun a ha => ?_, fun a ha => ?_, fun a ha => ?_, fun a ha => ?_⟩
  · by_cases e : a = a0
    · rw [e, upd_at]; simp only [if_true]
    · simp only [if_neg e]
      rw [upd_ne _ _ _ e]; exact hf' a (hi a ha e)
  · by_cases e : a = a0
    · simp only [if_pos e]; exact sl_set hsl hne
    · simp only [if_neg e]; exact sl_set (h.sl a (hi a ha e)) (h.ne a (hi a ha e))
  · by_cases e : a = a0
    · simp only [if_pos e]; rw [hsz]; exact hlt
    · simp only [if_neg e]; rw [hsz]; exact h.lt a (hi a ha e)
  · by_cases e : a = a0
    · simp only [if_pos e]; exact hnil
    · simp only [if_neg e]; exact h.nil a (hi a ha e)
  · by_cases e : a = a0
    · simp only [if_pos e]; exact hle
    · simp only [if_neg e]; exact h.le a (hi a ha e)
  · by_cases e : a = a0
    · simp only [if_pos e]; exact hcap
    · simp only [if_neg e]; exact h.cap a (hi a ha e)
  · by_cases e : a = a0
    · simp only [if_pos e]; exact hne
    · simp only [if_neg e]; exact h.ne a (hi a ha e)
  · by_cases e : a = a0
    · simp only [if_pos e]; exact hel
    · simp only [if_neg e]; exact h.el a (hi a ha e)
theorem RS.matZ {D : FD} {G M n : Nat} {V : Nat → Nat → Nat} {X : Nat → Option Addr} {C : Nat → Nat} {w : World} (h : RS D G M n M V X C w) (hn : n ≤ 64) : MatZ (some ⟨G, 0, none⟩) M X (fun _ => n) C (fun i j => ((V i j : Nat) : Int)) w :=
  ⟨fun i hi => ⟨G, 0, rfl, by rw [Nat.zero_add]; exact (h.cell i hi (Nat.le_refl _)).1⟩, h.sl, h.le, h.cap, h.nil, fun _ _ => by omega⟩
theorem RS.cdz {D : FD} {G M n : Nat} {V : Nat → Nat → Nat} {X : Nat → Option Addr} {C : Nat → Nat} {w : World} (h : RS D G M n M V X C w) (hn1 : 1 ≤ n) (hn : n ≤ 64) (hM : M ≤ 64) : CdZ D (some ⟨G, 0, none⟩) M n X (fun _ => n) C (fun i j => ((V i j : Nat) : Int)) w := by
  refine ⟨h.matZ hn, mchk_of hM (fun i hi => ?_), fun _ => rfl, hn1, hn⟩
  unfold FD.mrow
  rw [if_neg (by omega), if_neg (by omega), if_pos]
  exact allHas_iff.2 (fun j _ => has_of_lt (h.el i hi j))
/-- A row that a matrix has, told as it lies. -/
theorem CdZ.row {D : FD} (F : Fld D) {ao : Option Addr} {m n : Nat} {A : Nat → Option Addr} {N C : Nat → Nat} {Z : Nat → Nat → Int} {w : World} (h : CdZ D ao m n A N C Z w) (i : Nat) (hi : i < m) : ∃ b off c, ao = some ⟨b, off, none⟩ ∧ w.cell? ⟨b, off + i, none⟩ = some (.slice (A i) n c) ∧ Sl (A i) n (mzc N Z i) w ∧ LtB (A i) w.heap.size ∧ (A i = none → c = 0) ∧ n ≤ c ∧ c ≤ 9223372036854775807 := by
  obtain ⟨_, _, _, hm⟩ := h.rows F
  have hn := h.n1
  obtain ⟨b, off, u, e, hc, A', ca', eu, hs, hl, h1, h2, h3⟩ := hm i hi
  obtain ⟨b', off', e', hc'⟩ := h.mat.cell i hi
  rw [e] at e'
  cases e'
  rw [hc, eu] at hc'
  have hc2 := Option.some.inj hc'
  simp only [Value.slice.injEq] at hc2
  obtain ⟨rfl, _, _⟩ := hc2
  rw [show n - 1 + 1 = n from by omega] at eu hs h2
  exact ⟨b, off, ca', e, by rw [hc, eu], hs, hl, h1, h2, h3⟩
end Go.Proofs.Ytbofcldmgjeklaa

/- Sums of codes: the program's sum. -/
namespace Go.Proofs.Ytbofcldmgjeklaa
open Go.RowKit Go.Sort

theorem Mx.ownV {B G m k n : Nat} {R : Nat → Nat → Nat} {h : Nat → Nat} {w : World} (H : Mx B G m k n R h w) (hm : m ≤ 1000000) : OwnV B (.slice (some ⟨G, 0, none⟩) k m) (vl k fun a => .slice (some ⟨h a, 0, none⟩) n n) w := by
  obtain ⟨f, ⟨cs, hh, hsz, hcs⟩, hf'⟩ := H.outer
  have hle := H.le
  refine ⟨by rw [vl_len]; omega, Or.inr ⟨G, m, cs, by rw [vl_len], H.geG, hh, by rw [vl_len]; exact hle, by unfold maxLen; omega, by omega, ?_⟩⟩
  rw [vl_len]
  apply List.ext_getElem?
  intro i
  rw [List.getElem?_take]
  by_cases hi : i < k
  · rw [if_pos (by omega), vl_get _ _ i hi, Array.getElem?_toList, hcs i (by omega), hf' i hi]
  · rw [if_neg (by omega), List.getElem?_eq_none (by rw [vl_len]; omega)]
/-- What a step of the sum reads. -/
def smF (G2 i bx ox pj G j hj n cc y : Nat) (wx : World) : Prop := wx.cell? ⟨G2, i, none⟩ = some (.slice (some ⟨bx, ox, none⟩) n cc) ∧ wx.frozen? ⟨G2, i, none⟩ = false ∧ wx.cell? ⟨bx, ox + pj, none⟩ = some (.int .i64 (y : Nat)) ∧ wx.cell? ⟨G, j, none⟩ = some (.slice (some ⟨hj, 0, none⟩) n n)
theorem smF.below {G2 i bx ox pj G j hj n cc y : Nat} {w w' : World} (h : smF G2 i bx ox pj G j hj n cc y w) (hb : Below w.heap.size w w') : smF G2 i bx ox pj G j hj n cc y w' := by
  obtain ⟨h1, h2, h3, h4⟩ := h
  have e1 := hb.block _ (cell_lt h1)
  have f : w'.frozen? ⟨G2, i, none⟩ = w.frozen? ⟨G2, i, none⟩ := by simp [World.frozen?, e1]
  exact ⟨((bcell hb).1 _ _ (cell_lt h1)).trans h1, f.trans h2, ((bcell hb).1 _ _ (cell_lt h3)).trans h3, ((bcell hb).1 _ _ (cell_lt h4)).trans h4⟩

end Go.Proofs.Ytbofcldmgjeklaa

/- Sums of codes and what both have: the program's checkBoth, Sum, Meet. -/
namespace Go.Proofs.Ytbofcldmgjeklaa
open Go.RowKit Go.Sort

theorem two_boxes (qa na qb nb : Int) (va vb : Value) (w : World) : Below w.heap.size w ((w.alloc (.cells #[.int .i64 qa, .int .i64 na, va] 51)).alloc (.cells #[.int .i64 qb, .int .i64 nb, vb] 51)) ∧ CB w.heap.size qa na va ((w.alloc (.cells #[.int .i64 qa, .int .i64 na, va] 51)).alloc (.cells #[.int .i64 qb, .int .i64 nb, vb] 51)) ∧ CB (w.heap.size + 1) qb nb vb ((w.alloc (.cells #[.int .i64 qa, .int .i64 na, va] 51)).alloc (.cells #[.int .i64 qb, .int .i64 nb, vb] 51)) ∧ ((w.alloc (.cells #[.int .i64 qa, .int .i64 na, va] 51)).alloc (.cells #[.int .i64 qb, .int .i64 nb, vb] 51)).heap.size = w.heap.size + 2 := by
  have hs1 : (w.alloc (.cells #[.int .i64 qa, .int .i64 na, va] 51)).heap.size = w.heap.size + 1 := by simp
  have h1 := CB.new qa na va w
  have h2 := CB.new qb nb vb (w.alloc (.cells #[.int .i64 qa, .int .i64 na, va] 51))
  have b1 : Below (w.alloc (.cells #[.int .i64 qa, .int .i64 na, va] 51)).heap.size (w.alloc (.cells #[.int .i64 qa, .int .i64 na, va] 51)) ((w.alloc (.cells #[.int .i64 qa, .int .i64 na, va] 51)).alloc (.cells #[.int .i64 qb, .int .i64 nb, vb] 51)) := (Below.refl _ _).alloc (Nat.le_refl _) _
  rw [hs1] at h2
  exact ⟨bel_up' ((Below.refl _ _).alloc (Nat.le_refl _) _) b1, h1.keep b1, h2, by simp⟩

end Go.Proofs.Ytbofcldmgjeklaa

/- Sums of codes and what both have: the program's Sum and Meet of codes that may be. -/
namespace Go.Proofs.Ytbofcldmgjeklaa
open Go.RowKit Go.Sort

end Go.Proofs.Ytbofcldmgjeklaa

/- Codes: one form and the dual, of the reference (Made, DualOf). -/
namespace Go.Proofs.Ytbofcldmgjeklaa
open Go.RowKit Go.Sort

/-- Block b holds a code's cells. -/
def RBt (b : Nat) (w : World) : Prop := ∃ cs, w.heap[b]? = some (.cells cs 51 (0, 0))
theorem RBt.new (cs : Array Value) (w : World) : RBt w.heap.size (w.alloc (.cells cs 51)) := ⟨cs, two_new _⟩
theorem RBt.keep {b : Nat} {w w' : World} (h : RBt b w) (hb : Below w.heap.size w w') : RBt b w' := by
  obtain ⟨cs, h⟩ := h
  exact ⟨cs, by rw [hb.block b (lt_of_block h)]; exact h⟩
theorem Row.notCode {g N b : Nat} {c : Nat → Nat} {w : World} (h : Row g N c w) (ht : RBt b w) : g ≠ b := by
  obtain ⟨cap, f, ⟨cs, h1, _⟩, _⟩ := h
  obtain ⟨ds, h2⟩ := ht
  intro e
  rw [e, h2] at h1
  simp at h1
theorem OwnV.notCode {base b : Nat} {v : Value} {l : List Value} {w : World} (h : OwnV base v l w) (ht : RBt b w) : ∀ g, v.ownBlock = some g → g ≠ b := by
  intro g hg e
  rcases h.2 with ⟨h1, _⟩ | ⟨g', cap, cur, hv, _, hh, _⟩
  · rw [h1] at hg; cases hg
  · rw [hv] at hg
    have hg : some g' = some g := hg
    cases hg
    obtain ⟨ds, h2⟩ := ht
    rw [e, h2] at hh
    simp at hh
theorem OwnV.same {base : Nat} {v : Value} {l : List Value} {w w' : World} (h : OwnV base v l w) (hb : ∀ g, v.ownBlock = some g → w'.heap[g]? = w.heap[g]?) : OwnV base v l w' := by
  obtain ⟨h1, h2⟩ := h
  refine ⟨h1, ?_⟩
  rcases h2 with h2 | ⟨g, cap, cur, hv, hg, hh, r⟩
  · exact Or.inl h2
  · exact Or.inr ⟨g, cap, cur, hv, hg, by rw [hb g (by rw [hv]; rfl)]; exact hh, r⟩
theorem LLs.laid {base b : Nat} {v : Value} {L : List (Nat × (Nat → Nat))} {w : World} (h : LLs base v L w) (ht : RBt b w) (q n : Int) (u : Value) : LLs base v L (laid w b q n u) := by
  obtain ⟨l, h1, h2⟩ := h
  refine ⟨l, h1.same (fun g hg => laid_heap w b q n u (h1.notCode ht g hg)), h2.1, fun j x p hx hp => ?_⟩
  obtain ⟨g, cap, e, a1, a2, hr⟩ := h2.2 j x p hx hp
  exact ⟨g, cap, e, a1, a2, hr.other (laid_heap w b q n u (hr.notCode ht))⟩

end Go.Proofs.Ytbofcldmgjeklaa

/- Codes: rows of two codes in one list; what both have, of the reference (Both). -/
namespace Go.Proofs.Ytbofcldmgjeklaa
open Go.RowKit Go.Sort

theorem Rwv.keep {u : Value} {n : Nat} {c : Nat → Nat} {w w' : World} (h : Rwv u n c w) (hb : Below w.heap.size w w') : Rwv u n c w' := by
  obtain ⟨A, ca, e, hs, hl, h1, h2, h3⟩ := h
  exact ⟨A, ca, e, hs.below hb hl, hl.mono hb.size, h1, h2, h3⟩
end Go.Proofs.Ytbofcldmgjeklaa

/- CodePairs: codes held against one another; the ways on which there is nothing. -/
namespace Go.Proofs.Ytbofcldmgjeklaa
open Go.RowKit Go.Sort

end Go.Proofs.Ytbofcldmgjeklaa

/- CodePairs: the way of an error. -/
namespace Go.Proofs.Ytbofcldmgjeklaa
open Go.RowKit Go.Sort

end Go.Proofs.Ytbofcldmgjeklaa

/- CodePairs: two codes that may be. -/
namespace Go.Proofs.Ytbofcldmgjeklaa
open Go.RowKit Go.Sort

theorem RB.of {b : Nat} {q n : Int} {v : Value} {w : World} (h : CB b q n v w) (ht : RBt b w) : RB b w := by
  obtain ⟨cs, hh⟩ := ht
  exact ⟨⟨_, h.c0⟩, ⟨_, h.c1⟩, ⟨_, h.c2⟩, frozen_of_row _ _ _ _ _ hh, frozen_of_row _ _ _ _ _ hh, frozen_of_row _ _ _ _ _ hh⟩
end Go.Proofs.Ytbofcldmgjeklaa

/- Make and Dual, with their checks. -/
namespace Go.Proofs.Ytbofcldmgjeklaa
open Go.RowKit Go.Sort

set_option maxHeartbeats 4000000 in
set_option maxRecDepth 100000 in
theorem cMake_ok {D : FD} (hD : D ∈ fieldsL) {ao : Option Addr} {m n ca : Nat} {A : Nat → Option Addr} {N C : Nat → Nat} {Z : Nat → Nat → Int} {w : World} (ha : CdZ D ao m n A N C Z w)
    (hC : ∀ wx, Below w.heap.size w wx → Calls Try.prog 95 #[.agg #[.int .i64 D.q, .int .i64 (n : Nat), .slice ao m ca]] wx fun x w' => x = .returned (.int .i64 0) ∧ Below wx.heap.size wx w') :
    Calls Try.prog 63 #[.agg #[.int .i64 D.q, .int .i64 (n : Nat), .slice ao m ca]] w fun x w' => ∃ k R ro rc, x = .returned (.tuple #[.agg #[.int .i64 D.q, .int .i64 (n : Nat), .slice ro k rc], .int .i64 0]) ∧ MV w.heap.size (.slice ro k rc) k n R w' ∧ Red D n m (mzc N Z) k R ∧ Below w.heap.size w w' := by
  obtain ⟨w0, hw0⟩ : ∃ w0, w0 = (w.alloc (.cells #[.int .i64 D.q, .int .i64 (n : Nat), .slice ao m ca] 51)).alloc (.cells #[.int .i64 0, .int .i64 0, .slice none 0 0] 51) := ⟨_, rfl⟩
  have HW : Hid (Below w.heap.size w w0 ∧ RB (w.heap.size + 1) w0 ∧ CB w.heap.size D.q n (.slice ao m ca) w0 ∧ w0.heap.size = w.heap.size + 2) := by
    obtain ⟨h1, h2, h3, h4⟩ := two_boxes D.q n 0 0 (.slice ao m ca) (.slice none 0 0) w
    have h6 := RBt.new #[.int .i64 0, .int .i64 0, .slice none 0 0] (w.alloc (.cells #[.int .i64 D.q, .int .i64 (n : Nat), .slice ao m ca] 51))
    rw [show (w.alloc (.cells #[.int .i64 D.q, .int .i64 (n : Nat), .slice ao m ca] 51)).heap.size = w.heap.size + 1 by simp] at h6
    rw [hw0]; exact ⟨h1, RB.of h3 h6, h2, by simp⟩
  have HA : Hid (D ∈ fieldsL ∧ CdZ D ao m n A N C Z w) := ⟨hD, ha⟩
  have HC : Hid _ := hC
  have hn1 := ha.n1
  have hn := ha.n64
  clear hD ha hC
  go_enter Try.func63, Try.ntmps63
  go_wp2_with fail
  rw [← hw0]
  clear hw0
  refine (HC.out _ HW.out.1).mono ?_
  rintro x w1 ⟨rfl, hb1⟩
  have H1 : Hid (Below w.heap.size w w1 ∧ RB (w.heap.size + 1) w1 ∧ CB w.heap.size D.q n (.slice ao m ca) w1 ∧ w.heap.size + 2 ≤ w1.heap.size) := ⟨bel_up' HW.out.1 hb1, HW.out.2.1.keep hb1, HW.out.2.2.1.keep hb1, by have := hb1.size; have := HW.out.2.2.2; omega⟩
  clear hb1
  have hcb1 := H1.out.2.2.1
  obtain ⟨a0, a1, a2⟩ := hcb1
  go_wp2_with fail
  refine (oneForm_any HA.out.1 (HA.out.2.below H1.out.1)).mono ?_
  rintro x w2 ⟨k, R, ro, rc, rfl, hmv, hred, hb2⟩
  have H2 : Hid (MV w1.heap.size (.slice ro k rc) k n R w2 ∧ Red D n m (mzc N Z) k R ∧ Below w.heap.size w w2 ∧ RB (w.heap.size + 1) w2) := ⟨hmv, hred, bel_up' H1.out.1 hb2, H1.out.2.1.keep hb2⟩
  clear hmv hred hb2 a0 a1 a2
  obtain ⟨⟨x0, c0⟩, ⟨x1, c1⟩, ⟨x2, c2⟩, f0, f1, f2⟩ := H2.out.2.2.2
  go_wp2
  obtain ⟨w3, hw3⟩ : ∃ w3, w3 = laid w2 (w.heap.size + 1) D.q n (.slice ro k rc) := ⟨_, rfl⟩
  have H3 : Hid (CB (w.heap.size + 1) D.q n (.slice ro k rc) w3 ∧ MV w.heap.size (.slice ro k rc) k n R w3 ∧ Below w.heap.size w w3) := by
    have := H1.out.2.2.2
    rw [hw3]; exact ⟨laid_cb H2.out.2.2.2 _ _ _, (laid_mv H2.out.1 (by omega) _ _ _).mono (by omega), laid_below H2.out.2.2.1 (by omega) _ _ _⟩
  unfold laid at hw3
  rw [← hw3]
  clear hw3 c0 c1 c2 f0 f1 f2
  obtain ⟨c0, c1, c2⟩ := H3.out.1
  refine bodyPost_ret (v := .tuple #[.agg #[.int .i64 D.q, .int .i64 (n : Nat), .slice ro k rc], .int .i64 0]) (by simp [results, Try.results63, go_sem, c0, c1, c2]) rfl ?_
  exact ⟨_, R, _, _, rfl, H3.out.2.1, H2.out.2.1, H3.out.2.2⟩
end Go.Proofs.Ytbofcldmgjeklaa

/- Weights and distances of words, on both sides. -/
namespace Go.Proofs.Ytbofcldmgjeklaa
open Go.RowKit Go.Sort

end Go.Proofs.Ytbofcldmgjeklaa

/- Numbers of a word: may they be? The program's numbers. -/
namespace Go.Proofs.Ytbofcldmgjeklaa
open Go.RowKit Go.Sort

/-- What is said of m numbers that are to be so many elements. -/
def FD.nchk (D : FD) (m : Nat) (y : Nat → Int) (many : Int) : Int := if ((m : Nat) : Int) ≠ many then 6 else if anyB (fun j => !D.has (y j)) m = true then 2 else 0
theorem nchk_ok {D : FD} {m : Nat} {y : Nat → Int} {many : Int} (h : D.nchk m y many = 0) : ((m : Nat) : Int) = many ∧ ∀ j, j < m → D.has (y j) = true := by
  unfold FD.nchk at h
  split at h
  · omega
  · split at h
    · omega
    · rename_i h1 h2
      refine ⟨by omega, fun j hj => ?_⟩
      cases e : D.has (y j) with
      | true => rfl
      | false => exact absurd (anyB_yes (p := fun j => !D.has (y j)) (by show (!D.has (y j)) = true; rw [e]; rfl) m hj) h2
end Go.Proofs.Ytbofcldmgjeklaa

/- Encode: the sum of the rows of the one form. -/
namespace Go.Proofs.Ytbofcldmgjeklaa
open Go.RowKit Go.Sort

theorem zc_lt {D : FD} {my : Nat} {y : Nat → Int} {many : Int} (h : D.nchk my y many = 0) {i : Nat} (hi : i < my) : zc my y i < D.q := by
  obtain ⟨s, e, hs⟩ := has_nat ((nchk_ok h).2 i hi)
  unfold zc; rw [if_pos hi, e, Int.toNat_natCast]; exact hs
end Go.Proofs.Ytbofcldmgjeklaa

/- Encoded: the reference's sum of rows. -/
namespace Go.Proofs.Ytbofcldmgjeklaa
open Go.RowKit Go.Sort

end Go.Proofs.Ytbofcldmgjeklaa

/- Encode: where there is nothing to tell. -/
namespace Go.Proofs.Ytbofcldmgjeklaa
open Go.RowKit Go.Sort

end Go.Proofs.Ytbofcldmgjeklaa

/- Plain mathematics: products of rows; what makes rows 0. No Go text here. -/
namespace Go.Proofs.Ytbofcldmgjeklaa

/-- The sum of the products of the first numbers of two lists. -/
def dot (D : FD) (a b : Nat → Nat) : Nat → Nat
  | 0 => 0
  | j + 1 => D.ad (dot D a b j) (D.mul (a j) (b j))
theorem dot_lt {D : FD} (F : Fld D) (a b : Nat → Nat) : ∀ j, dot D a b j < D.q
  | 0 => zero_lt' F
  | j + 1 => ad_lt F (dot_lt F a b j) (F.mul_lt _ _)
end Go.Proofs.Ytbofcldmgjeklaa

/- WordMay and Dot of the reference. -/
namespace Go.Proofs.Ytbofcldmgjeklaa
open Go.RowKit Go.Sort

set_option maxHeartbeats 8000000 in
set_option maxRecDepth 100000 in
theorem rdot_any {D : FD} (hD : D ∈ fieldsL) (gen gm cm : Nat) {ao bo : Option Addr} {n ca cb : Nat} {a b : Nat → Nat} {w : World} (hn : n ≤ 1000) (ha : ∀ i, i < n → a i < D.q) (hb : ∀ i, i < n → b i < D.q) (hA : Sl ao n a w) (hla : LtB ao w.heap.size) (hB : Sl bo n b w) (hlb : LtB bo w.heap.size) (hM : ModAt D (.slice (some ⟨gm, 0, none⟩) (D.m + 1) cm) D.md w) :
    Calls Try.prog 22 #[.agg #[.int .i64 D.q, .int .i64 D.p, .int .i64 D.m, .int .i64 gen, .slice (some ⟨gm, 0, none⟩) (D.m + 1) cm], .slice ao n ca, .slice bo n cb] w fun e w' => e = .returned (.int .i64 (dot D a b n : Nat)) ∧ Below w.heap.size w w' := by
  obtain ⟨wa, hwa⟩ : ∃ wa, wa = w.alloc (.cells #[.int .i64 D.q, .int .i64 D.p, .int .i64 D.m, .int .i64 gen, .slice (some ⟨gm, 0, none⟩) (D.m + 1) cm] 31) := ⟨_, rfl⟩
  have hba : Below w.heap.size w wa := by rw [hwa]; exact (Below.refl _ _).alloc (Nat.le_refl _) _
  have HF : Hid (D ∈ fieldsL ∧ Sl ao n a wa ∧ Sl bo n b wa ∧ LtB ao wa.heap.size ∧ LtB bo wa.heap.size ∧ (∀ i, i < n → a i < D.q) ∧ (∀ i, i < n → b i < D.q) ∧ ModAt D (.slice (some ⟨gm, 0, none⟩) (D.m + 1) cm) D.md w ∧ Below w.heap.size w wa) := ⟨hD, hA.below hba hla, hB.below hba hlb, fun x hx => Nat.lt_of_lt_of_le (hla x hx) hba.size, fun x hx => Nat.lt_of_lt_of_le (hlb x hx) hba.size, ha, hb, hM, hba⟩
  have HX : Hid (Box w.heap.size D gen (.slice (some ⟨gm, 0, none⟩) (D.m + 1) cm) wa ∧ wa.heap.size = w.heap.size + 1) := ⟨by rw [hwa]; exact box_new D gen _ w, by rw [hwa]; simp⟩
  clear hD ha hb hA hla hB hlb hM hba
  go_enter Try.func22, Try.ntmps22
  go_wp2
  rw [← hwa]
  clear hwa
  go_loopw [7, 8] (fun vs vi wr => ∃ i s : Nat, i ≤ n ∧ vs = .int .i64 (s : Nat) ∧ vi = .int .i64 i ∧ Hid (s = dot D a b i ∧ Below wa.heap.size wa wr)) (fun _ vi _ => n - (intOf vi).toNat)
  case atStart => exact ⟨0, 0, by omega, rfl, rfl, rfl, Below.refl _ _⟩
  case round =>
    obtain ⟨i, s, hi, rfl, rfl, HG⟩ := hrel
    rename World => wr
    by_cases hlt : i < n
    · have hib : (i : Int) < (n : Int) := by omega
      have hib0 : (0 : Int) ≤ (i : Int) := by omega
      obtain ⟨bx, ox, hxo, hcx⟩ := (HF.out.2.1.below HG.out.2 HF.out.2.2.2.1) i hlt
      subst hxo
      obtain ⟨bY, oY, hyo, hcy⟩ := (HF.out.2.2.1.below HG.out.2 HF.out.2.2.2.2.1) i hlt
      subst hyo
      obtain ⟨x, hx⟩ : ∃ x, x = a i := ⟨_, rfl⟩
      obtain ⟨y, hy⟩ : ∃ y, y = b i := ⟨_, rfl⟩
      rw [← hx] at hcx
      rw [← hy] at hcy
      have F := fld HF.out.1
      obtain ⟨p, hp⟩ : ∃ p, p = D.mul x y := ⟨_, rfl⟩
      obtain ⟨u, hu⟩ : ∃ u, u = D.ad s p := ⟨_, rfl⟩
      have hxq : x < D.q := by rw [hx]; exact HF.out.2.2.2.2.2.1 i hlt
      have hyq : y < D.q := by rw [hy]; exact HF.out.2.2.2.2.2.2.1 i hlt
      have hsq : s < D.q := by rw [HG.out.1]; exact dot_lt F _ _ _
      have hpq : p < D.q := by rw [hp]; exact F.mul_lt _ _
      have hbx := HX.out.1.below HG.out.2 (by have := HX.out.2; omega)
      have k0 := cell_regrown hbx.c0
      have k1 := cell_regrown hbx.c1
      have k2 := cell_regrown hbx.c2
      have k3 := cell_regrown hbx.c3
      have k4 := cell_regrown hbx.c4
      have k5 := cell_regrown hcx
      have k6 := cell_regrown hcy
      have hbw : Below w.heap.size w wr := bel_up' HF.out.2.2.2.2.2.2.2.2 HG.out.2
      have HC1 : Hid (∀ d os, Calls Try.prog 59 #[.agg #[.int .i64 D.q, .int .i64 D.p, .int .i64 D.m, .int .i64 gen, .slice (some ⟨gm, 0, none⟩) (D.m + 1) cm], .int .i64 (x : Nat), .int .i64 (y : Nat)] (grow (redrawn wr d) os) fun e w'' => e = .returned (.int .i64 (p : Nat)) ∧ ∃ p : Regrown, w'' = grow (redrawn wr p.d) p.os) := fun d os => by
        rw [hp]
        exact Calls.regrown_of (rmul_nat HF.out.1 gen HF.out.2.2.2.2.2.2.2.1 x y hxq hyq _ (bel_up' hbw (below_regrown wr d os)))
      have HC2 : Hid (∀ d os, Calls Try.prog 58 #[.agg #[.int .i64 D.q, .int .i64 D.p, .int .i64 D.m, .int .i64 gen, .slice (some ⟨gm, 0, none⟩) (D.m + 1) cm], .int .i64 (s : Nat), .int .i64 (p : Nat)] (grow (redrawn wr d) os) fun e w'' => e = .returned (.int .i64 (u : Nat)) ∧ ∃ p : Regrown, w'' = grow (redrawn wr p.d) p.os) := fun d os => by
        have h := radd_nat HF.out.1 gen (.slice (some ⟨gm, 0, none⟩) (D.m + 1) cm) s p hsq hpq (grow (redrawn wr d) os)
        rw [hu]
        exact Calls.regrown_of h
      have HV : Hid (u = dot D a b (i + 1) ∧ Below wa.heap.size wa wr) := ⟨by rw [hu, hp, hx, hy, HG.out.1]; rfl, HG.out.2⟩
      clear hx hy hp hu hbx hbw F hcx hcy HG
      go_wp2
      refine wp_region_quiet_below (by kernel_rfl) (by kernel_rfl) ?_
      repeat (go_big_quiet_step (first | (go_at_call 59; exact HC1.out _ _) | (go_at_call 58; exact HC2.out _ _)))
      refine wpQuiet_nil ?_
      intro _ hw'
      obtain ⟨⟨dr, osr⟩, hw''⟩ := hw'
      subst hw''
      go_wp2
      go_roundw
      case rel => exact ⟨i + 1, u, by omega, rfl, by go_num, HV.out.1, bel_up' HV.out.2 (below_regrown wr dr osr)⟩
      case measure => simp [intOf]; omega
    · have hib : ¬ (i : Int) < (n : Int) := by omega
      have hre : n = i := by omega
      subst hre
      have H3 : Hid (Below w.heap.size w wr) := bel_up' HF.out.2.2.2.2.2.2.2.2 HG.out.2
      go_wp2
      go_ret
      exact ⟨by rw [HG.out.1]; rfl, H3.out⟩
end Go.Proofs.Ytbofcldmgjeklaa

/- Plain mathematics: what makes rows 0 is what the null rows span; the dual of the dual. No Go text here. -/
namespace Go.Proofs.Ytbofcldmgjeklaa

end Go.Proofs.Ytbofcldmgjeklaa

/- Codes in hand: what was told is handed in again (Sum, Meet, Make, Dual). -/
namespace Go.Proofs.Ytbofcldmgjeklaa
open Go.RowKit Go.Sort

/-- A code that can be handed in, of the rows M. -/
def Cod (D : FD) (n : Nat) (ao : Option Addr) (m : Nat) (M : Nat → Nat → Nat) (w : World) : Prop := ∃ A N C Z, CdZ D ao m n A N C Z w ∧ ∀ i, i < m → mzc N Z i = M i
theorem Cod.below {D : FD} {n m : Nat} {ao : Option Addr} {M : Nat → Nat → Nat} {w w' : World} (h : Cod D n ao m M w) (hb : Below w.heap.size w w') : Cod D n ao m M w' := by
  obtain ⟨A, N, C, Z, h1, h2⟩ := h
  exact ⟨A, N, C, Z, h1.below hb, h2⟩
theorem Cod.rows {D : FD} (F : Fld D) {n m : Nat} {ao : Option Addr} {M : Nat → Nat → Nat} {w : World} (h : Cod D n ao m M w) : m ≤ 64 ∧ (1 ≤ n ∧ n ≤ 64) ∧ ∀ i, i < m → El D (M i) ∧ Bd n (M i) := by
  obtain ⟨A, N, C, Z, h1, h2⟩ := h
  obtain ⟨g1, g2, g3, _⟩ := h1.rows F
  exact ⟨g1, ⟨h1.n1, h1.n64⟩, fun i hi => by rw [← h2 i hi]; exact ⟨g2 i hi, g3 i hi⟩⟩
theorem MV.cod {D : FD} {B n k : Nat} {ro : Option Addr} {rc : Nat} {R : Nat → Nat → Nat} {w : World} (h : MV B (.slice ro k rc) k n R w) (hn1 : 1 ≤ n) (hn : n ≤ 64) (hk : k ≤ 64) (he : ∀ i, i < k → El D (R i)) (hb : ∀ i, i < k → Bd n (R i)) : Cod D n ro k R w := by
  obtain ⟨A, C, hc⟩ := (h.rlz (by omega)).cdz (D := D) hn1 hn hk he
  exact ⟨A, _, C, _, hc, fun i hi => mzc_rows hb i hi⟩
theorem Cod.chk {D : FD} (hD : D ∈ fieldsL) {n m : Nat} (ca : Nat) {ao : Option Addr} {M : Nat → Nat → Nat} {w : World} (h : Cod D n ao m M w) (wx : World) (hx : Below w.heap.size w wx) :
    Calls Try.prog 95 #[.agg #[.int .i64 D.q, .int .i64 (n : Nat), .slice ao m ca]] wx fun x w' => x = .returned (.int .i64 0) ∧ Below wx.heap.size wx w' := by
  obtain ⟨A, N, C, Z, h1, _⟩ := h.below hx
  have e : D.cchk (n : Nat) m N Z = 0 := by
    have a1 := h1.n1
    have a2 := h1.n64
    unfold FD.cchk
    rw [if_neg (by omega), h1.chk, if_neg (fun h => h rfl), if_neg]
    rintro ⟨b1, b2⟩
    exact b2 (by rw [h1.wd b1])
  have := ccheck_any hD (ca := ca) (n : Nat) h1.mat (h1.few (fld hD))
  rw [e] at this
  exact this
theorem Red.of_eq {D : FD} {n m k : Nat} {M M' R : Nat → Nat → Nat} (h : Red D n m M k R) (e : ∀ i, i < m → M i = M' i) : Red D n m M' k R := by
  obtain ⟨p, h1, h2⟩ := h
  exact ⟨p, h1, fun v => (h2 v).trans (rows_congr e v)⟩
theorem Cod.make {D : FD} (hD : D ∈ fieldsL) {n m : Nat} (ca : Nat) {ao : Option Addr} {M : Nat → Nat → Nat} {w : World} (h : Cod D n ao m M w) :
    Calls Try.prog 63 #[.agg #[.int .i64 D.q, .int .i64 (n : Nat), .slice ao m ca]] w fun x w' => ∃ k R ro rc, x = .returned (.tuple #[.agg #[.int .i64 D.q, .int .i64 (n : Nat), .slice ro k rc], .int .i64 0]) ∧ (Cod D n ro k R w' ∧ RL (.slice ro k rc) k n R w') ∧ Red D n m M k R ∧ Below w.heap.size w w' := by
  have hr := h.rows (fld hD)
  have hc := h.chk hD ca
  obtain ⟨A, N, C, Z, h1, h2⟩ := h
  refine (cMake_ok hD h1 hc).mono ?_
  rintro x w' ⟨k, R, ro, rc, rfl, hmv, hred, hb⟩
  have hkn := hred.le
  exact ⟨k, R, ro, rc, rfl, ⟨hmv.cod hr.2.1.1 hr.2.1.2 (by omega) hred.rows.1 hred.rows.2, hmv.rl⟩, hred.of_eq h2, hb⟩
end Go.Proofs.Ytbofcldmgjeklaa

/- Golay's codes: all multiples of a polynomial, turned (the program's cyclic.Of, of a polynomial that divides x^n - 1). -/
namespace Go.Proofs.Ytbofcldmgjeklaa
open Go.RowKit Go.Sort

/-- 'copy(out[off:], l)', out a row of the call's own. -/
theorem copy_at {ops : Array Oper} {rest : List Oper} {o : Oper} {a : Act} {w : World} {Q : Exit → Act → World → Prop} (hgd : o.guard = none) (d s : Operand)
    (ho : o.op = .call { callee := .builtin .copy, args := #[d, s], argTypes := #[22, 22] }) (g N off L dc n sc : Nat) (ao : Option Addr)
    (hd : a.eval d = .slice (some ⟨g, off, none⟩) L dc) (hs : a.eval s = .slice ao n sc) (c x : Nat → Nat) (hrow : Row g N c w) (hS : Sl ao n x w) (hn : n ≤ L) (hL : off + L ≤ N)
    (B : Nat) (w0 : World) (hb : Below B w0 w) (hBg : B ≤ g)
    (h : ∀ w', Row g N (fun k => if off ≤ k ∧ k < off + n then x (k - off) else c k) w' → Below B w0 w' → wpList Try.prog ops Q rest (a.put o.dst (goInt n)) w') : wpList Try.prog ops Q (o :: rest) a w := by
  obtain ⟨cap, f, hf, hN, he⟩ := hrow
  obtain ⟨cs, h1, h2, h3⟩ := hf
  obtain ⟨i0, hi, hz0, hz1, hz2⟩ := info_parts Try.infoInt
  have hh : w.heap[g]? = some (.cells cs.toList.toArray 3 (0, 0)) := by simpa using h1
  refine wpList_copy_splice hgd d s 22 22 ho 3 Try.underlying22 (by rw [hi]; simp [hz1]) _ _ L dc n sc hd hs g off cs.toList 3 hh (celL n x) (by rw [celL_len]; exact (Nat.min_eq_left hn).symm) ?_ (by rw [celL_len]; simp; omega) (celL_one n x) B w0 hb hBg ?_
  · intro h0
    rw [celL_len] at h0
    obtain ⟨b, off', rfl, _⟩ := hS 0 h0
    refine ⟨rfl, _, rfl, fun j v hj => ?_⟩
    have hj' : j < n := by
      have := (List.getElem?_eq_some_iff.1 hj).1
      rwa [celL_len] at this
    rw [celL_get n x j hj'] at hj
    cases hj
    obtain ⟨b', off'', e, hc⟩ := hS j hj'
    cases e
    rw [add_off]; exact hc
  · intro w' hg' hb'
    rw [celL_len]
    refine h w' ?_ hb'
    have hlen : (splice cs.toList off (celL n x)).length = cap := by rw [length_splice _ _ _ (by rw [celL_len]; simp; omega)]; simpa using h2
    refine ⟨cap, fun k => if off ≤ k ∧ k < off + n then .int .i64 (x (k - off) : Nat) else f k, ⟨(splice cs.toList off (celL n x)).toArray, hg'.out, by simpa using hlen, fun k hk => ?_⟩, hN, fun k hk => ?_⟩
    · show _ = some (if off ≤ k ∧ k < off + n then _ else f k)
      have hcl : cs.toList.length = cap := by simpa using h2
      unfold splice
      rw [List.getElem?_toArray, celL_len]
      have htl : (cs.toList.take off).length = off := by rw [List.length_take, hcl]; omega
      by_cases e1 : k < off
      · rw [List.getElem?_append_left (by omega), List.getElem?_take_of_lt e1, if_neg (by omega), Array.getElem?_toList, h3 k hk]
      · rw [List.getElem?_append_right (by omega), htl]
        by_cases e : k < off + n
        · rw [List.getElem?_append_left (by rw [celL_len]; omega), celL_get n x (k - off) (by omega), if_pos ⟨by omega, e⟩]
        · rw [List.getElem?_append_right (by rw [celL_len]; omega), celL_len, List.getElem?_drop, show off + n + (k - off - n) = k from by omega, Array.getElem?_toList, h3 k hk, if_neg (by omega)]
    · show (if off ≤ k ∧ k < off + n then _ else f k) = .int .i64 ((if off ≤ k ∧ k < off + n then x (k - off) else c k : Nat) : Int)
      by_cases e : off ≤ k ∧ k < off + n
      · rw [if_pos e, if_pos e]
      · rw [if_neg e, if_neg e]; exact he k hk

end Go.Proofs.Ytbofcldmgjeklaa

/- Plain mathematics: how many sets there are; Krawtchouk's numbers. No Go text here. -/
namespace Go.Proofs.Ytbofcldmgjeklaa

end Go.Proofs.Ytbofcldmgjeklaa

/- Weights: powers and numbers of sets (the program's power, over). -/
namespace Go.Proofs.Ytbofcldmgjeklaa
open Go.RowKit

end Go.Proofs.Ytbofcldmgjeklaa

/- Weights: Krawtchouk's numbers (the program's krawtchouk). -/
namespace Go.Proofs.Ytbofcldmgjeklaa
open Go.RowKit

end Go.Proofs.Ytbofcldmgjeklaa
