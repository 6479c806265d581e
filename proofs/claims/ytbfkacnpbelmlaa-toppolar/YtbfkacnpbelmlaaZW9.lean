/- Texts of ours, one behind the other: W9 T2 T4 T5 T6 T7 T8 T3 X1 X2 X3 X4 X5 X6 X7 X8 X9 X10 X11 S3 X12 X13 X14 X15 X16 S4 T9. -/
import Derived.Test.YtbfkacnpbelmlaaZL10
import Derived.Shelf.Abstract
import Derived.BigRegion
import Derived.Test.YtbfkacnpbelmlaaZL1
import Derived.Test.YtbfkacnpbelmlaaZR5
/- Lists of lists of the call's own: others' lists laid behind them (append(v, l...)), also at a step of a region that draws its order. -/
namespace Go.Proofs.Ytbfkacnpbelmlaa
open Go.RowKit

theorem OwnV.grown {base : Nat} {v : Value} {l : List Value} {w w' : World} {row : Option Nat} (h : OwnV base v l w) (hg : w.grownBy w' row) (hne : v.ownBlock = none ∨ v.ownBlock ≠ row) : OwnV base v l w' := World.ownsRow.kept h hg hne
theorem OwnV.alloc {base : Nat} {v : Value} {l : List Value} {w : World} (h : OwnV base v l w) (o : Obj) : OwnV base v l (w.alloc o) := World.ownsRow.alloc h o

theorem slz_below {ao : Option Addr} {n : Nat} {z : Nat → Int} {w w' : World} (h : SlZ ao n z w) (hb : Below w.heap.size w w') : SlZ ao n z w' := fun j hj => by
  obtain ⟨b, off, e, hc⟩ := h j hj
  have hlt : b < w.heap.size := by
    rcases Nat.lt_or_ge b w.heap.size with e | e
    · exact e
    · exfalso
      have h1 : w.heap[b]? = none := Array.getElem?_eq_none e
      simp [World.cell?, h1] at hc
  exact ⟨b, off, e, ((bcell hb).1 b (off + j) hlt).trans hc⟩
end Go.Proofs.Ytbfkacnpbelmlaa

/- The reference's matrices: rows as they are handed in; a row's first number that is not 0. -/
namespace Go.Proofs.Ytbfkacnpbelmlaa
open Go.RowKit Go.Sort

theorem cell_lt {w : World} {a : Addr} {v : Value} (h : w.cell? a = some v) : a.block < w.heap.size := by
  rcases Nat.lt_or_ge a.block w.heap.size with e | e
  · exact e
  · exfalso
    have h1 : w.heap[a.block]? = none := Array.getElem?_eq_none e
    simp [World.cell?, h1] at h
/-- A list of numbers is no list of lists. -/
theorem OwnI.apart {base base' : Nat} {u v : Value} {l : List Int} {l' : List Value} {w : World} (h : OwnI base u l w) (h' : OwnV base' v l' w) : u.ownBlock = none ∨ u.ownBlock ≠ v.ownBlock := by
  rcases h.2 with ⟨h1, _⟩ | ⟨g, cap, cur, hv, _, hh, _⟩
  · left; rw [h1]; rfl
  · right
    rcases h'.2 with ⟨h2, _⟩ | ⟨g', cap', cur', hv', _, hh', _⟩
    · rw [hv, h2]; intro e; cases e
    · rw [hv, hv']
      intro e
      have e : some g = some g' := e
      cases e
      rw [hh] at hh'
      simp at hh'
end Go.Proofs.Ytbfkacnpbelmlaa

/- The reference's matrices: products (Product). -/
namespace Go.Proofs.Ytbfkacnpbelmlaa
open Go.RowKit Go.Sort

end Go.Proofs.Ytbfkacnpbelmlaa

/- The reference's matrices: which may be (MatrixMay). -/
namespace Go.Proofs.Ytbfkacnpbelmlaa
open Go.RowKit Go.Sort

end Go.Proofs.Ytbfkacnpbelmlaa

/- The reference's matrices: Reduce's regions that draw their order, each by itself. -/
namespace Go.Proofs.Ytbfkacnpbelmlaa
open Go.RowKit Go.Sort

end Go.Proofs.Ytbfkacnpbelmlaa

/- The reference's matrices: Reduce's regions that draw their order, each by itself. -/
namespace Go.Proofs.Ytbfkacnpbelmlaa
open Go.RowKit Go.Sort

end Go.Proofs.Ytbfkacnpbelmlaa

/- The reference's matrices: Reduce's regions that draw their order, each by itself. -/
namespace Go.Proofs.Ytbfkacnpbelmlaa
open Go.RowKit Go.Sort

end Go.Proofs.Ytbfkacnpbelmlaa

/- The reference's matrices: the one form of what rows span (Reduce). -/
namespace Go.Proofs.Ytbfkacnpbelmlaa
open Go.RowKit Go.Sort

end Go.Proofs.Ytbfkacnpbelmlaa

/- The program's matrices: how many columns there are (width), which row may stand (checkRow), which matrix may be (Check). -/
namespace Go.Proofs.Ytbfkacnpbelmlaa
open Go.RowKit

end Go.Proofs.Ytbfkacnpbelmlaa

/- The program's matrices: how many columns there are (width), which row may stand (checkRow), which matrix may be (Check). -/
namespace Go.Proofs.Ytbfkacnpbelmlaa
open Go.RowKit

end Go.Proofs.Ytbfkacnpbelmlaa

/- The library's search with a function value: where the first number is of which it holds; which row may stand in a matrix (checkRow). -/
namespace Go.Proofs.Ytbfkacnpbelmlaa
open Go.RowKit

end Go.Proofs.Ytbfkacnpbelmlaa

/- The program's matrices: which row may stand (checkRow), which matrix may be (Check), over which field (over). -/
namespace Go.Proofs.Ytbfkacnpbelmlaa
open Go.RowKit

end Go.Proofs.Ytbfkacnpbelmlaa

/- The program's matrices: which may be (Check), and over which field (over). -/
namespace Go.Proofs.Ytbfkacnpbelmlaa
open Go.RowKit

end Go.Proofs.Ytbfkacnpbelmlaa

/- The program's matrices: no field (over); adding a multiple of a row to another, in place (addTo). -/
namespace Go.Proofs.Ytbfkacnpbelmlaa
open Go.RowKit

end Go.Proofs.Ytbfkacnpbelmlaa

/- The program's matrices: rows that a call makes for itself and writes into (Mx); a copy of a matrix, with columns of noughts behind it (wider). -/
namespace Go.Proofs.Ytbfkacnpbelmlaa
open Go.RowKit

end Go.Proofs.Ytbfkacnpbelmlaa

/- The program's matrices: a copy of a matrix, with columns of noughts behind it (wider). -/
namespace Go.Proofs.Ytbfkacnpbelmlaa
open Go.RowKit

end Go.Proofs.Ytbfkacnpbelmlaa

/- The program's matrices: the field of one matrix or of two that may be; a matrix that may be, row by row. -/
namespace Go.Proofs.Ytbfkacnpbelmlaa
open Go.RowKit

end Go.Proofs.Ytbfkacnpbelmlaa

/- The program's matrices: products (Times). -/
namespace Go.Proofs.Ytbfkacnpbelmlaa
open Go.RowKit

end Go.Proofs.Ytbfkacnpbelmlaa

/- The program's matrices: a column cleared by a row (clearColumn). -/
namespace Go.Proofs.Ytbfkacnpbelmlaa
open Go.RowKit

end Go.Proofs.Ytbfkacnpbelmlaa

/- Plain mathematics: bringing rows to their one form, column by column, as the program does. -/
namespace Go.Proofs.Ytbfkacnpbelmlaa
open Go.RowKit

end Go.Proofs.Ytbfkacnpbelmlaa

/- The program's matrices: the first row that is not 0 in a column. -/
namespace Go.Proofs.Ytbfkacnpbelmlaa
open Go.RowKit

end Go.Proofs.Ytbfkacnpbelmlaa

/- The program's matrices: two rows change places; rows that are left as they are. -/
namespace Go.Proofs.Ytbfkacnpbelmlaa
open Go.RowKit

theorem OwnI.same {base : Nat} {v : Value} {l : List Int} {w w' : World} (h : OwnI base v l w) (hb : ∀ k, v.ownBlock = some k → w'.heap[k]? = w.heap[k]?) : OwnI base v l w' := by
  obtain ⟨h1, h2⟩ := h
  refine ⟨h1, ?_⟩
  rcases h2 with h2 | ⟨g, cap, cur, hv, hg, hh, r⟩
  · exact Or.inl h2
  · exact Or.inr ⟨g, cap, cur, hv, hg, by rw [hb g (by rw [hv]; rfl)]; exact hh, r⟩
end Go.Proofs.Ytbfkacnpbelmlaa

/- The program's matrices: rows brought to their one form (reduce). -/
namespace Go.Proofs.Ytbfkacnpbelmlaa
open Go.RowKit

end Go.Proofs.Ytbfkacnpbelmlaa

/- The program's matrices: the one form of what rows span (Reduce). -/
namespace Go.Proofs.Ytbfkacnpbelmlaa
open Go.RowKit

end Go.Proofs.Ytbfkacnpbelmlaa

/- The program's matrices: ranks (Rank); what is said where there is no field. -/
namespace Go.Proofs.Ytbfkacnpbelmlaa
open Go.RowKit

end Go.Proofs.Ytbfkacnpbelmlaa

/- Plain mathematics: one row for each column in which no row of a reduced form begins (Null). -/
namespace Go.Proofs.Ytbfkacnpbelmlaa

end Go.Proofs.Ytbfkacnpbelmlaa

/- The reference's matrices: the rows that make all rows 0 (Null). -/
namespace Go.Proofs.Ytbfkacnpbelmlaa
open Go.RowKit Go.Sort

end Go.Proofs.Ytbfkacnpbelmlaa
