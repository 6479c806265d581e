/- The reference's polynomials: quotients and rests (PDiv). -/
import Derived.Test.YtnjbnamcedfjaaaGreatZU12
namespace Go.Proofs.YtnjbnamcedfjaaaGreat
open Go.RowKit Go.Sort

/-- What PDiv keeps while it divides: what is left (r, of len numbers), the divisor's and the quotient's rows. -/
structure DSt (D : FD) (gen gm cm : Nat) (b : Nat → Nat) (l : Nat) (Q : Nat → Nat) (gb gq nq : Nat) (w : World) (ar : Option Addr) (len cp : Nat) (r : Nat → Nat) (s : Nat) (wr : World) : Prop where
  own : OwnP (w.heap.size + 1) (.slice ar len cp) len r wr
  rowb : Row gb (l + 1) b wr
  rowq : Row gq nq (fun k => if s ≤ k then Q k else 0) wr
  box : Box w.heap.size D gen (.slice (some ⟨gm, 0, none⟩) (D.m + 1) cm) wr
  bel : Below w.heap.size w wr
  ne : ∀ x, ar = some x → x.block ≠ gb ∧ x.block ≠ gq
theorem DSt.below {D : FD} {gen gm cm : Nat} {b : Nat → Nat} {l : Nat} {Q : Nat → Nat} {gb gq nq : Nat} {w : World} {ar : Option Addr} {len cp : Nat} {r : Nat → Nat} {s : Nat} {wr w' : World} (h : DSt D gen gm cm b l Q gb gq nq w ar len cp r s wr) (hw : w.heap.size < wr.heap.size) (hb : Below wr.heap.size wr w') : DSt D gen gm cm b l Q gb gq nq w ar len cp r s w' :=
  ⟨h.own.below hb (Nat.le_refl _), h.rowb.below hb h.rowb.lt, h.rowq.below hb h.rowq.lt, h.box.below hb hw, bel_up' h.bel hb, h.ne⟩
theorem Box.setOther {g : Nat} {D : FD} {gen : Nat} {v : Value} {w : World} (h : Box g D gen v w) (a : Addr) (ha : g ≠ a.block) (u : Value) : Box g D gen v (w.setCell a u) := by
  have e : (w.setCell a u).heap[g]? = w.heap[g]? := Below.heap_setCell _ _ _ _ ha
  exact ⟨(World.cell?_of_block (a := ⟨g, 0, none⟩) e).trans h.c0, (World.cell?_of_block (a := ⟨g, 1, none⟩) e).trans h.c1, (World.cell?_of_block (a := ⟨g, 2, none⟩) e).trans h.c2, (World.cell?_of_block (a := ⟨g, 3, none⟩) e).trans h.c3, (World.cell?_of_block (a := ⟨g, 4, none⟩) e).trans h.c4⟩

end Go.Proofs.YtnjbnamcedfjaaaGreat
