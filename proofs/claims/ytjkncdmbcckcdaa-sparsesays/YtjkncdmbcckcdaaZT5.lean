/- Texts of ours, one behind the other: T5 X1 X2 X3 X4 X5 X6 X7 X8 X9 X10 X11 S3 S4 S5. -/
import Derived.Test.YtjkncdmbcckcdaaZL10
import Derived.Shelf.Abstract
import Derived.Test.YtjkncdmbcckcdaaZL1
/- The reference's matrices: which may be (MatrixMay). -/
namespace Go.Proofs.Ytjkncdmbcckcdaa
open Go.RowKit Go.Sort

/-- A matrix that is handed in: m lists of whatever length. -/
structure MatZ (ao : Option Addr) (m : Nat) (A : Nat → Option Addr) (N C : Nat → Nat) (Z : Nat → Nat → Int) (w : World) : Prop where
  cell : ∀ i, i < m → ∃ b off, ao = some ⟨b, off, none⟩ ∧ w.cell? ⟨b, off + i, none⟩ = some (.slice (A i) (N i) (C i))
  sl : ∀ i, i < m → SlZ (A i) (N i) (Z i) w
  le : ∀ i, i < m → N i ≤ C i
  cap : ∀ i, i < m → C i ≤ 9223372036854775807
  nil : ∀ i, i < m → A i = none → C i = 0
  few : ∀ i, i < m → N i ≤ 1000000
theorem MatZ.below {ao : Option Addr} {m : Nat} {A : Nat → Option Addr} {N C : Nat → Nat} {Z : Nat → Nat → Int} {w w' : World} (h : MatZ ao m A N C Z w) (hb : Below w.heap.size w w') : MatZ ao m A N C Z w' :=
  ⟨fun i hi => by
    obtain ⟨b, off, e, hc⟩ := h.cell i hi
    exact ⟨b, off, e, ((bcell hb).1 b (off + i) (cell_lt hc)).trans hc⟩, fun i hi => slz_below (h.sl i hi) hb, h.le, h.cap, h.nil, h.few⟩
end Go.Proofs.Ytjkncdmbcckcdaa

/- The program's matrices: how many columns there are (width), which row may stand (checkRow), which matrix may be (Check). -/
namespace Go.Proofs.Ytjkncdmbcckcdaa
open Go.RowKit

end Go.Proofs.Ytjkncdmbcckcdaa

/- The program's matrices: how many columns there are (width), which row may stand (checkRow), which matrix may be (Check). -/
namespace Go.Proofs.Ytjkncdmbcckcdaa
open Go.RowKit

end Go.Proofs.Ytjkncdmbcckcdaa

/- The library's search with a function value: where the first number is of which it holds; which row may stand in a matrix (checkRow). -/
namespace Go.Proofs.Ytjkncdmbcckcdaa
open Go.RowKit

end Go.Proofs.Ytjkncdmbcckcdaa

/- The program's matrices: which row may stand (checkRow), which matrix may be (Check), over which field (over). -/
namespace Go.Proofs.Ytjkncdmbcckcdaa
open Go.RowKit

end Go.Proofs.Ytjkncdmbcckcdaa

/- The program's matrices: which may be (Check), and over which field (over). -/
namespace Go.Proofs.Ytjkncdmbcckcdaa
open Go.RowKit

end Go.Proofs.Ytjkncdmbcckcdaa

/- The program's matrices: no field (over); adding a multiple of a row to another, in place (addTo). -/
namespace Go.Proofs.Ytjkncdmbcckcdaa
open Go.RowKit

end Go.Proofs.Ytjkncdmbcckcdaa

/- The program's matrices: rows that a call makes for itself and writes into (Mx); a copy of a matrix, with columns of noughts behind it (wider). -/
namespace Go.Proofs.Ytjkncdmbcckcdaa
open Go.RowKit

end Go.Proofs.Ytjkncdmbcckcdaa

/- The program's matrices: a copy of a matrix, with columns of noughts behind it (wider). -/
namespace Go.Proofs.Ytjkncdmbcckcdaa
open Go.RowKit

end Go.Proofs.Ytjkncdmbcckcdaa

/- The program's matrices: the field of one matrix or of two that may be; a matrix that may be, row by row. -/
namespace Go.Proofs.Ytjkncdmbcckcdaa
open Go.RowKit

end Go.Proofs.Ytjkncdmbcckcdaa

/- The program's matrices: products (Times). -/
namespace Go.Proofs.Ytjkncdmbcckcdaa
open Go.RowKit

end Go.Proofs.Ytjkncdmbcckcdaa

/- The program's matrices: a column cleared by a row (clearColumn). -/
namespace Go.Proofs.Ytjkncdmbcckcdaa
open Go.RowKit

end Go.Proofs.Ytjkncdmbcckcdaa

/- Plain mathematics: bringing rows to their one form, column by column, as the program does. -/
namespace Go.Proofs.Ytjkncdmbcckcdaa
open Go.RowKit

end Go.Proofs.Ytjkncdmbcckcdaa

/- Plain mathematics: one row for each column in which no row of a reduced form begins (Null). -/
namespace Go.Proofs.Ytjkncdmbcckcdaa

end Go.Proofs.Ytjkncdmbcckcdaa

/- Plain mathematics: linear equations (Solve): the rows with what they are to be behind them. -/
namespace Go.Proofs.Ytjkncdmbcckcdaa

end Go.Proofs.Ytjkncdmbcckcdaa
