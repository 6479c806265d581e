/- The reference's polynomials: quotients and rests (PDiv). -/
import Derived.Test.YtjkncdmbcckcdaaZV1
namespace Go.Proofs.Ytjkncdmbcckcdaa
open Go.RowKit Go.Sort

theorem Box.setOther {g : Nat} {D : FD} {gen : Nat} {v : Value} {w : World} (h : Box g D gen v w) (a : Addr) (ha : g ≠ a.block) (u : Value) : Box g D gen v (w.setCell a u) := by
  have e : (w.setCell a u).heap[g]? = w.heap[g]? := Below.heap_setCell _ _ _ _ ha
  exact ⟨(World.cell?_of_block (a := ⟨g, 0, none⟩) e).trans h.c0, (World.cell?_of_block (a := ⟨g, 1, none⟩) e).trans h.c1, (World.cell?_of_block (a := ⟨g, 2, none⟩) e).trans h.c2, (World.cell?_of_block (a := ⟨g, 3, none⟩) e).trans h.c3, (World.cell?_of_block (a := ⟨g, 4, none⟩) e).trans h.c4⟩

end Go.Proofs.Ytjkncdmbcckcdaa
