/- Texts of ours, one behind the other: I5 I6 I7 I8 I9 I10 I11 I12 I13 I14 I15 I16 I18 I19 I20 I21 I22 I23 S12 I24 I25 I26 I27 I28 I29. -/
import Derived.Test.YtabkomelnhnoiaaZW11
import Derived.Test.YtabkomelnhnoiaaZU5
import Derived.Test.YtabkomelnhnoiaaZS4
import Derived.Test.YtabkomelnhnoiaaZL11
import Derived.Test.YtabkomelnhnoiaaZS11
/- Codes: the rows that tell one place each (unit), and the dual. -/
namespace Go.Proofs.Ytabkomelnhnoiaa
open Go.RowKit Go.Sort

theorem MV.form {B : Nat} {v : Value} {k n : Nat} {R : Nat → Nat → Nat} {w : World} (h : MV B v k n R w) : ∃ ro rc, v = .slice ro k rc := by
  rcases h with ⟨e, ao, ca, ev⟩ | ⟨G, mc, m, hh, ev, hm⟩
  · rw [e]; exact ⟨ao, ca, ev⟩
  · exact ⟨_, _, ev⟩

end Go.Proofs.Ytabkomelnhnoiaa

/- Codes: a word, and another one so many times (span.Plus). -/
namespace Go.Proofs.Ytabkomelnhnoiaa
open Go.RowKit Go.Sort

end Go.Proofs.Ytabkomelnhnoiaa

/- Sums of codes: plain mathematics. -/
namespace Go.Proofs.Ytabkomelnhnoiaa
open Go.RowKit

end Go.Proofs.Ytabkomelnhnoiaa

/- Sums of codes: what is left of rows (the program's sum), its state. -/
namespace Go.Proofs.Ytabkomelnhnoiaa
open Go.RowKit Go.Sort

/-- Of the M lists in block G the first i are the rows V, of n elements, wherever they lie. -/
structure RS (D : FD) (G M n i : Nat) (V : Nat → Nat → Nat) (X : Nat → Option Addr) (C : Nat → Nat) (w : World) : Prop where
  outer : ∃ f, RowF G M 22 f w ∧ ∀ a, a < i → f a = .slice (X a) n (C a)
  sl : ∀ a, a < i → Sl (X a) n (V a) w
  lt : ∀ a, a < i → LtB (X a) w.heap.size
  nil : ∀ a, a < i → X a = none → C a = 0
  le : ∀ a, a < i → n ≤ C a
  cap : ∀ a, a < i → C a ≤ 9223372036854775807
  ne : ∀ a, a < i → ∀ x, X a = some x → x.block ≠ G
  el : ∀ a, a < i → El D (V a)
theorem RS.below {D : FD} {G M n i : Nat} {V : Nat → Nat → Nat} {X : Nat → Option Addr} {C : Nat → Nat} {w w' : World} (h : RS D G M n i V X C w) (hb : Below w.heap.size w w') : RS D G M n i V X C w' := by
  obtain ⟨f, hf, hf'⟩ := h.outer
  exact ⟨⟨f, hf.below hb hf.lt, hf'⟩, fun a ha => (h.sl a ha).below hb (h.lt a ha), fun a ha => (h.lt a ha).mono hb.size, h.nil, h.le, h.cap, h.ne, h.el⟩
theorem RS.cell {D : FD} {G M n i : Nat} {V : Nat → Nat → Nat} {X : Nat → Option Addr} {C : Nat → Nat} {w : World} (h : RS D G M n i V X C w) (a : Nat) (ha : a < i) (hM : i ≤ M) : w.cell? ⟨G, a, none⟩ = some (.slice (X a) n (C a)) ∧ w.frozen? ⟨G, a, none⟩ = false := by
  obtain ⟨f, hf, hf'⟩ := h.outer
  exact ⟨by rw [hf.cell a (by omega), hf' a ha], hf.free a⟩
theorem RS.free {D : FD} {G M n i : Nat} {V : Nat → Nat → Nat} {X : Nat → Option Addr} {C : Nat → Nat} {w : World} (h : RS D G M n i V X C w) (a : Nat) (ha : a < M) : (∃ u, w.cell? ⟨G, a, none⟩ = some u) ∧ w.frozen? ⟨G, a, none⟩ = false := by
  obtain ⟨f, hf, hf'⟩ := h.outer
  exact ⟨⟨_, hf.cell a ha⟩, hf.free a⟩
theorem RS.ltG {D : FD} {G M n i : Nat} {V : Nat → Nat → Nat} {X : Nat → Option Addr} {C : Nat → Nat} {w : World} (h : RS D G M n i V X C w) : G < w.heap.size := by
  obtain ⟨f, hf, _⟩ := h.outer
  exact hf.lt
theorem sl_set {ao : Option Addr} {n : Nat} {c : Nat → Nat} {w : World} {G a : Nat} {u : Value} (h : Sl ao n c w) (hne : ∀ x, ao = some x → x.block ≠ G) : Sl ao n c (w.setCell ⟨G, a, none⟩ u) := fun j hj => by
  obtain ⟨b, off, e, hc⟩ := h j hj
  refine ⟨b, off, e, ?_⟩
  have hb : b ≠ G := hne _ e
  have := Below.heap_setCell w ⟨G, a, none⟩ u b hb
  have e2 : (w.setCell ⟨G, a, none⟩ u).cell? ⟨b, off + j, none⟩ = w.cell? ⟨b, off + j, none⟩ := by simp [World.cell?, this]
  exact e2.trans hc
/-- List a0 is another one now. -/
theorem RS.put {D : FD} {G M n i i' a0 : Nat} {V : Nat → Nat → Nat} {X : Nat → Option Addr} {C : Nat → Nat} {w : World} (h : RS D G M n i V X C w) (hi : ∀ a, a < i' → a ≠ a0 → a < i) {x : Option Addr} {cc : Nat} {v : Nat → Nat} (hsl : Sl x n v w) (hlt : LtB x w.heap.size) (hnil : x = none → cc = 0) (hle : n ≤ cc) (hcap : cc ≤ 9223372036854775807) (hne : ∀ y, x = some y → y.block ≠ G) (hel : El D v) :
    RS D G M n i' (fun a => if a = a0 then v else V a) (fun a => if a = a0 then x else X a) (fun a => if a = a0 then cc else C a) (w.setCell ⟨G, a0, none⟩ (.slice x n cc)) := by
  obtain ⟨f, hf, hf'⟩ := h.outer
  have hsz : (w.setCell ⟨G, a0, none⟩ (.slice x n cc)).heap.size = w.heap.size := by simp
  refine ⟨⟨_, hf.store a0 (.slice x n cc), fun a ha => ?_⟩, fun a ha => ?_, fun a ha => ?_, fun a ha => ?_, fun a ha => ?_, fun a ha => ?_, fun a ha => ?_, fun a ha => ?_⟩
  · by_cases e : a = a0
    · rw [e, upd_at]; simp only [if_true]
    · simp only [if_neg e]
      rw [upd_ne _ _ _ e]; exact hf' a (hi a ha e)
  · by_cases e : a = a0
    · simp only [if_pos e]; exact sl_set hsl hne
    · simp only [if_neg e]; exact sl_set (h.sl a (hi a ha e)) (h.ne a (hi a ha e))
  · by_cases e : a = a0
    · simp only [if_pos e]; rw [hsz]; exact hlt
    · simp only [if_neg e]; rw [hsz]; exact h.lt a (hi a ha e)
  · by_cases e : a = a0
    · simp only [if_pos e]; exact hnil
    · simp only [if_neg e]; exact h.nil a (hi a ha e)
  · by_cases e : a = a0
    · simp only [if_pos e]; exact hle
    · simp only [if_neg e]; exact h.le a (hi a ha e)
  · by_cases e : a = a0
    · simp only [if_pos e]; exact hcap
    · simp only [if_neg e]; exact h.cap a (hi a ha e)
  · by_cases e : a = a0
    · simp only [if_pos e]; exact hne
    · simp only [if_neg e]; exact h.ne a (hi a ha e)
  · by_cases e : a = a0
    · simp only [if_pos e]; exact hel
    · simp only [if_neg e]; exact h.el a (hi a ha e)
/-- A row that a matrix has, told as it lies. -/
theorem CdZ.row {D : FD} (F : Fld D) {ao : Option Addr} {m n : Nat} {A : Nat → Option Addr} {N C : Nat → Nat} {Z : Nat → Nat → Int} {w : World} (h : CdZ D ao m n A N C Z w) (i : Nat) (hi : i < m) : ∃ b off c, ao = some ⟨b, off, none⟩ ∧ w.cell? ⟨b, off + i, none⟩ = some (.slice (A i) n c) ∧ Sl (A i) n (mzc N Z i) w ∧ LtB (A i) w.heap.size ∧ (A i = none → c = 0) ∧ n ≤ c ∧ c ≤ 9223372036854775807 := by
  obtain ⟨_, _, _, hm⟩ := h.rows F
  have hn := h.n1
  obtain ⟨b, off, u, e, hc, A', ca', eu, hs, hl, h1, h2, h3⟩ := hm i hi
  obtain ⟨b', off', e', hc'⟩ := h.mat.cell i hi
  rw [e] at e'
  cases e'
  rw [hc, eu] at hc'
  have hc2 := Option.some.inj hc'
  simp only [Value.slice.injEq] at hc2
  obtain ⟨rfl, _, _⟩ := hc2
  rw [show n - 1 + 1 = n from by omega] at eu hs h2
  exact ⟨b, off, ca', e, by rw [hc, eu], hs, hl, h1, h2, h3⟩
end Go.Proofs.Ytabkomelnhnoiaa

/- Sums of codes: the program's sum. -/
namespace Go.Proofs.Ytabkomelnhnoiaa
open Go.RowKit Go.Sort

/-- What a step of the sum reads. -/
def smF (G2 i bx ox pj G j hj n cc y : Nat) (wx : World) : Prop := wx.cell? ⟨G2, i, none⟩ = some (.slice (some ⟨bx, ox, none⟩) n cc) ∧ wx.frozen? ⟨G2, i, none⟩ = false ∧ wx.cell? ⟨bx, ox + pj, none⟩ = some (.int .i64 (y : Nat)) ∧ wx.cell? ⟨G, j, none⟩ = some (.slice (some ⟨hj, 0, none⟩) n n)
theorem smF.below {G2 i bx ox pj G j hj n cc y : Nat} {w w' : World} (h : smF G2 i bx ox pj G j hj n cc y w) (hb : Below w.heap.size w w') : smF G2 i bx ox pj G j hj n cc y w' := by
  obtain ⟨h1, h2, h3, h4⟩ := h
  have e1 := hb.block _ (cell_lt h1)
  have f : w'.frozen? ⟨G2, i, none⟩ = w.frozen? ⟨G2, i, none⟩ := by simp [World.frozen?, e1]
  exact ⟨((bcell hb).1 _ _ (cell_lt h1)).trans h1, f.trans h2, ((bcell hb).1 _ _ (cell_lt h3)).trans h3, ((bcell hb).1 _ _ (cell_lt h4)).trans h4⟩

end Go.Proofs.Ytabkomelnhnoiaa

/- Sums of codes and what both have: the program's checkBoth, Sum, Meet. -/
namespace Go.Proofs.Ytabkomelnhnoiaa
open Go.RowKit Go.Sort

end Go.Proofs.Ytabkomelnhnoiaa

/- Sums of codes and what both have: the program's Sum and Meet of codes that may be. -/
namespace Go.Proofs.Ytabkomelnhnoiaa
open Go.RowKit Go.Sort

end Go.Proofs.Ytabkomelnhnoiaa

/- Codes: one form and the dual, of the reference (Made, DualOf). -/
namespace Go.Proofs.Ytabkomelnhnoiaa
open Go.RowKit Go.Sort

theorem OwnV.same {base : Nat} {v : Value} {l : List Value} {w w' : World} (h : OwnV base v l w) (hb : ∀ g, v.ownBlock = some g → w'.heap[g]? = w.heap[g]?) : OwnV base v l w' := by
  obtain ⟨h1, h2⟩ := h
  refine ⟨h1, ?_⟩
  rcases h2 with h2 | ⟨g, cap, cur, hv, hg, hh, r⟩
  · exact Or.inl h2
  · exact Or.inr ⟨g, cap, cur, hv, hg, by rw [hb g (by rw [hv]; rfl)]; exact hh, r⟩
end Go.Proofs.Ytabkomelnhnoiaa

/- Codes: rows of two codes in one list; what both have, of the reference (Both). -/
namespace Go.Proofs.Ytabkomelnhnoiaa
open Go.RowKit Go.Sort

theorem Rwv.keep {u : Value} {n : Nat} {c : Nat → Nat} {w w' : World} (h : Rwv u n c w) (hb : Below w.heap.size w w') : Rwv u n c w' := by
  obtain ⟨A, ca, e, hs, hl, h1, h2, h3⟩ := h
  exact ⟨A, ca, e, hs.below hb hl, hl.mono hb.size, h1, h2, h3⟩
end Go.Proofs.Ytabkomelnhnoiaa

/- CodePairs: codes held against one another; the ways on which there is nothing. -/
namespace Go.Proofs.Ytabkomelnhnoiaa
open Go.RowKit Go.Sort

end Go.Proofs.Ytabkomelnhnoiaa

/- CodePairs: the way of an error. -/
namespace Go.Proofs.Ytabkomelnhnoiaa
open Go.RowKit Go.Sort

end Go.Proofs.Ytabkomelnhnoiaa

/- CodePairs: two codes that may be. -/
namespace Go.Proofs.Ytabkomelnhnoiaa
open Go.RowKit Go.Sort

end Go.Proofs.Ytabkomelnhnoiaa

/- Make and Dual, with their checks. -/
namespace Go.Proofs.Ytabkomelnhnoiaa
open Go.RowKit Go.Sort

end Go.Proofs.Ytabkomelnhnoiaa

/- Weights and distances of words, on both sides. -/
namespace Go.Proofs.Ytabkomelnhnoiaa
open Go.RowKit Go.Sort

end Go.Proofs.Ytabkomelnhnoiaa

/- Numbers of a word: may they be? The program's numbers. -/
namespace Go.Proofs.Ytabkomelnhnoiaa
open Go.RowKit Go.Sort

end Go.Proofs.Ytabkomelnhnoiaa

/- Encode: the sum of the rows of the one form. -/
namespace Go.Proofs.Ytabkomelnhnoiaa
open Go.RowKit Go.Sort

end Go.Proofs.Ytabkomelnhnoiaa

/- Encoded: the reference's sum of rows. -/
namespace Go.Proofs.Ytabkomelnhnoiaa
open Go.RowKit Go.Sort

end Go.Proofs.Ytabkomelnhnoiaa

/- Encode: where there is nothing to tell. -/
namespace Go.Proofs.Ytabkomelnhnoiaa
open Go.RowKit Go.Sort

end Go.Proofs.Ytabkomelnhnoiaa

/- Plain mathematics: products of rows; what makes rows 0. No Go text here. -/
namespace Go.Proofs.Ytabkomelnhnoiaa

end Go.Proofs.Ytabkomelnhnoiaa

/- WordMay and Dot of the reference. -/
namespace Go.Proofs.Ytabkomelnhnoiaa
open Go.RowKit Go.Sort

end Go.Proofs.Ytabkomelnhnoiaa

/- Syndrome and Has. -/
namespace Go.Proofs.Ytabkomelnhnoiaa
open Go.RowKit Go.Sort

end Go.Proofs.Ytabkomelnhnoiaa

/- Has. -/
namespace Go.Proofs.Ytabkomelnhnoiaa
open Go.RowKit Go.Sort

end Go.Proofs.Ytabkomelnhnoiaa

/- CodeSays: the words of a code. -/
namespace Go.Proofs.Ytabkomelnhnoiaa
open Go.RowKit Go.Sort

end Go.Proofs.Ytabkomelnhnoiaa

/- CodeSays: the words of a code that may be. -/
namespace Go.Proofs.Ytabkomelnhnoiaa
open Go.RowKit Go.Sort

/-- The three codes' variables and the field's. -/
def CW (b : Nat) (D : FD) (n : Nat) (vc vo vd : Value) (f gm cm : Nat) (wx : World) : Prop := CB b D.q n vc wx ∧ CB (b + 1) D.q n vo wx ∧ CB (b + 1 + 1) D.q n vd wx ∧ Box f D D.gen (.slice (some ⟨gm, 0, none⟩) (D.m + 1) cm) wx ∧ f < wx.heap.size
theorem CW.keep {b : Nat} {D : FD} {n : Nat} {vc vo vd : Value} {f gm cm : Nat} {wx wy : World} (h : CW b D n vc vo vd f gm cm wx) (hb : Below wx.heap.size wx wy) : CW b D n vc vo vd f gm cm wy :=
  ⟨h.1.keep hb, h.2.1.keep hb, h.2.2.1.keep hb, h.2.2.2.1.below hb h.2.2.2.2, Nat.lt_of_lt_of_le h.2.2.2.2 hb.size⟩
end Go.Proofs.Ytabkomelnhnoiaa

/- Places that a code may lose. -/
namespace Go.Proofs.Ytabkomelnhnoiaa
open Go.RowKit Go.Sort

end Go.Proofs.Ytabkomelnhnoiaa
