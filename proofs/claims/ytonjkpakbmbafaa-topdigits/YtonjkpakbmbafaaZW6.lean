/- Texts of ours, one behind the other: W6 U20 U21 U22. -/
import Derived.Test.YtonjkpakbmbafaaZV7
import Derived.WalkMore
import Derived.ScopeJumps
import Derived.Deep.LoopGhost
/- Lists of lists of numbers that a call makes for itself: one list more. -/
namespace Go.Proofs.Ytonjkpakbmbafaa
open Go.RowKit

/-- The slice v of slices, made behind block number base, holds the slices l. -/
def OwnV (base : Nat) (v : Value) (l : List Value) (w : World) : Prop := w.ownsRow base 22 1 v l.length l
theorem OwnV.nil (base : Nat) (w : World) : OwnV base (.slice none 0 0) [] w := World.ownsRow_nil _ _ _ _
theorem OwnV.below {base B : Nat} {v : Value} {l : List Value} {w w' : World} (h : OwnV base v l w) (hb : Below B w w') (hB : w.heap.size ≤ B) : OwnV base v l w' := by
  obtain ⟨h1, h2⟩ := h
  refine ⟨h1, ?_⟩
  rcases h2 with h2 | ⟨g, cap, cur, hv, hg, hh, r⟩
  · exact Or.inl h2
  · exact Or.inr ⟨g, cap, cur, hv, hg, by rw [hb.block g (Nat.lt_of_lt_of_le (lt_of_block hh) hB)]; exact hh, r⟩
theorem OwnV.mono {base base' : Nat} {v : Value} {l : List Value} {w : World} (h : OwnV base v l w) (hb : base' ≤ base) : OwnV base' v l w := by
  obtain ⟨h1, h2⟩ := h
  refine ⟨h1, ?_⟩
  rcases h2 with h2 | ⟨g, cap, cur, hv, hg, r⟩
  · exact Or.inl h2
  · exact Or.inr ⟨g, cap, cur, hv, by omega, r⟩
/-- Opened: where it lies. -/
theorem OwnV.open {base : Nat} {v : Value} {l : List Value} {w : World} (h : OwnV base v l w) : ∃ ao cap, v = .slice ao l.length cap ∧ (ao = none → cap = 0) ∧ LtB ao w.heap.size ∧ GeB ao base ∧
    ∀ (j : Nat) (u : Value), l[j]? = some u → ∃ g, ao = some ⟨g, 0, none⟩ ∧ w.cell? ⟨g, j, none⟩ = some u ∧ w.frozen? ⟨g, j, none⟩ = false := by
  rcases h.2 with ⟨h1, h2⟩ | ⟨g, cap, cur, hv, hg, hh, hle, hcm, hsz, htake⟩
  · refine ⟨none, 0, by rw [h1, h2], fun _ => rfl, fun x hx => (by cases hx), fun x hx => (by cases hx), fun j u hj => ?_⟩
    rw [List.length_eq_zero_iff.1 h2] at hj
    simp at hj
  · refine ⟨_, cap, hv, fun e => (by cases e), fun x hx => (by cases hx; exact lt_of_block hh), fun x hx => (by cases hx; exact hg), fun j u hj => ⟨g, rfl, ?_, frozen_of_row w g j cur 22 hh⟩⟩
    have hj' := (List.getElem?_eq_some_iff.1 hj).1
    rw [cell_of_row w g j cur 22 (0, 0) hh, ← Array.getElem?_toList]
    have h3 : (cur.toList.take (l.length * 1))[j]? = l[j]? := by rw [htake]
    rw [List.getElem?_take, if_pos (by omega)] at h3
    rw [h3]; exact hj

/-- A row of numbers is no row of slices. -/
theorem Row.apart {base g N : Nat} {c : Nat → Nat} {v : Value} {l : List Value} {w : World} (h : Row g N c w) (ho : OwnV base v l w) : some g ≠ v.ownBlock := by
  obtain ⟨cap, f, ⟨cs, h1, _⟩, _⟩ := h
  rcases ho.2 with ⟨h2, _⟩ | ⟨g', cap', cur, hv, _, hh, _⟩
  · rw [h2]; intro e; cases e
  · rw [hv]
    intro e
    have e : some g = some g' := e
    cases e
    rw [h1] at hh
    simp at hh
/-- The slice v is polynomial p (its degree, its coefficients), in a row of numbers. -/
def Elm (v : Value) (p : Nat × (Nat → Nat)) (w : World) : Prop := ∃ g cap, v = .slice (some ⟨g, 0, none⟩) (p.1 + 1) cap ∧ p.1 + 1 ≤ cap ∧ cap ≤ 9223372036854775807 ∧ Row g (p.1 + 1) p.2 w
theorem Elm.one {v : Value} {p : Nat × (Nat → Nat)} {w : World} (h : Elm v p w) : v.oneCell' = true := by
  obtain ⟨g, cap, rfl, _⟩ := h
  rfl
theorem Elm.below {v : Value} {p : Nat × (Nat → Nat)} {w w' : World} (h : Elm v p w) {B : Nat} (hb : Below B w w') (hB : w.heap.size ≤ B) : Elm v p w' := by
  obtain ⟨g, cap, e, h1, h2, hr⟩ := h
  exact ⟨g, cap, e, h1, h2, hr.below hb (Nat.lt_of_lt_of_le hr.lt hB)⟩
theorem Elm.grown {base : Nat} {u v : Value} {p : Nat × (Nat → Nat)} {l : List Value} {w w' : World} (h : Elm u p w) (ho : OwnV base v l w) (hg : w.grownBy w' v.ownBlock) : Elm u p w' := by
  obtain ⟨g, cap, e, h1, h2, hr⟩ := h
  exact ⟨g, cap, e, h1, h2, hr.other (hg.block g hr.lt (hr.apart ho))⟩
theorem Elm.sl {v : Value} {p : Nat × (Nat → Nat)} {w : World} (h : Elm v p w) : ∃ ao cap, v = .slice ao (p.1 + 1) cap ∧ p.1 + 1 ≤ cap ∧ cap ≤ 9223372036854775807 ∧ Sl ao (p.1 + 1) p.2 w ∧ LtB ao w.heap.size ∧ (ao = none → cap = 0) := by
  obtain ⟨g, cap, e, h1, h2, hr⟩ := h
  exact ⟨_, cap, e, h1, h2, hr.sl (Nat.le_refl _), fun x hx => (by cases hx; exact hr.lt), fun e => (by cases e)⟩
/-- Slice by slice. -/
def Elms (l : List Value) (L : List (Nat × (Nat → Nat))) (w : World) : Prop := l.length = L.length ∧ ∀ (j : Nat) (v : Value) (p : Nat × (Nat → Nat)), l[j]? = some v → L[j]? = some p → Elm v p w
theorem Elms.nil (w : World) : Elms [] [] w := ⟨rfl, fun j v p h _ => by simp at h⟩
theorem Elms.below {l : List Value} {L : List (Nat × (Nat → Nat))} {w w' : World} (h : Elms l L w) {B : Nat} (hb : Below B w w') (hB : w.heap.size ≤ B) : Elms l L w' := ⟨h.1, fun j v p hv hp => (h.2 j v p hv hp).below hb hB⟩
theorem Elms.grown {base : Nat} {v : Value} {l' l : List Value} {L : List (Nat × (Nat → Nat))} {w w' : World} (h : Elms l L w) (ho : OwnV base v l' w) (hg : w.grownBy w' v.ownBlock) : Elms l L w' := ⟨h.1, fun j u p hu hp => (h.2 j u p hu hp).grown ho hg⟩
/-- The list of lists v, made behind block number base: the polynomials L. -/
def LLs (base : Nat) (v : Value) (L : List (Nat × (Nat → Nat))) (w : World) : Prop := ∃ l, OwnV base v l w ∧ Elms l L w
theorem LLs.nil (base : Nat) (w : World) : LLs base (.slice none 0 0) [] w := ⟨[], OwnV.nil _ _, Elms.nil _⟩
theorem LLs.below {base B : Nat} {v : Value} {L : List (Nat × (Nat → Nat))} {w w' : World} (h : LLs base v L w) (hb : Below B w w') (hB : w.heap.size ≤ B) : LLs base v L w' := by
  obtain ⟨l, h1, h2⟩ := h
  exact ⟨l, h1.below hb hB, h2.below hb hB⟩
theorem LLs.mono {base base' : Nat} {v : Value} {L : List (Nat × (Nat → Nat))} {w : World} (h : LLs base v L w) (hb : base' ≤ base) : LLs base' v L w := by
  obtain ⟨l, h1, h2⟩ := h
  exact ⟨l, h1.mono hb, h2⟩
end Go.Proofs.Ytonjkpakbmbafaa

/- The program's parts of a polynomial: what is kept, a division. -/
namespace Go.Proofs.Ytonjkpakbmbafaa
open Go.RowKit

/-- While a0 is parted: a is left, x is tried next; nothing ahead of x divides a. -/
structure PSt (D : FD) (a0 a x : Nat → Nat) (L : List (Nat × (Nat → Nat))) (da dx : Nat) : Prop where
  mna : Mn D da a
  mnx : Mn D dx x
  pos : 1 ≤ dx
  pre : Pre D L a0 a
  none : ∀ e y, 1 ≤ e → Mn D e y → Bef D e y dx x → ¬ PD D y a

end Go.Proofs.Ytonjkpakbmbafaa

/- The program's parts of a polynomial: the walk (parts). -/
namespace Go.Proofs.Ytonjkpakbmbafaa
open Go.RowKit

end Go.Proofs.Ytonjkpakbmbafaa

/- The program's polynomials: the calls that are listed: Through, Factors, Irreducible. -/
namespace Go.Proofs.Ytonjkpakbmbafaa
open Go.RowKit

theorem LLs.slice {base : Nat} {v : Value} {L : List (Nat × (Nat → Nat))} {w : World} (h : LLs base v L w) : ∃ ao cap, v = .slice ao L.length cap := by
  obtain ⟨l, h1, h2⟩ := h
  obtain ⟨ao, cap, hv, _⟩ := h1.open
  exact ⟨ao, cap, by rw [hv, h2.1]⟩

end Go.Proofs.Ytonjkpakbmbafaa
