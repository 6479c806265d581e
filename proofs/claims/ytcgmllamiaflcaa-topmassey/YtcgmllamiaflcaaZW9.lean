/- Texts of ours, one behind the other: W9 T2 T4 T5 X1 X2 X3 X4 X5 X6 X7 X8 X9 X10 X11 S3 S4 S5 O2 O3 U23 H1 H2 H3 H4. -/
import Derived.Test.YtcgmllamiaflcaaZK1
import Derived.Shelf.Abstract
import Derived.Test.YtcgmllamiaflcaaZL1
import Derived.Test.YtcgmllamiaflcaaZL10
/- Lists of lists of the call's own: others' lists laid behind them (append(v, l...)), also at a step of a region that draws its order. -/
namespace Go.Proofs.Ytcgmllamiaflcaa
open Go.RowKit

theorem OwnV.grown {base : Nat} {v : Value} {l : List Value} {w w' : World} {row : Option Nat} (h : OwnV base v l w) (hg : w.grownBy w' row) (hne : v.ownBlock = none ∨ v.ownBlock ≠ row) : OwnV base v l w' := World.ownsRow.kept h hg hne
theorem OwnV.alloc {base : Nat} {v : Value} {l : List Value} {w : World} (h : OwnV base v l w) (o : Obj) : OwnV base v l (w.alloc o) := World.ownsRow.alloc h o

theorem SlZ.one {g : Nat} {x : Int} {w : World} (h : w.cell? ⟨g, 0, none⟩ = some (.int .i64 x)) : SlZ (some ⟨g, 0, none⟩) 1 (fun _ => x) w := fun j hj => ⟨g, 0, rfl, by rw [show 0 + j = 0 from by omega]; exact h⟩
theorem SlZ.less {ao : Option Addr} {n m : Nat} {z : Nat → Int} {w : World} (h : SlZ ao n z w) (hm : m ≤ n) : SlZ ao m z w := fun j hj => h j (by omega)

end Go.Proofs.Ytcgmllamiaflcaa

/- The reference's matrices: rows as they are handed in; a row's first number that is not 0. -/
namespace Go.Proofs.Ytcgmllamiaflcaa
open Go.RowKit Go.Sort

/-- A list of numbers is no list of lists. -/
theorem OwnI.apart {base base' : Nat} {u v : Value} {l : List Int} {l' : List Value} {w : World} (h : OwnI base u l w) (h' : OwnV base' v l' w) : u.ownBlock = none ∨ u.ownBlock ≠ v.ownBlock := by
  rcases h.2 with ⟨h1, _⟩ | ⟨g, cap, cur, hv, _, hh, _⟩
  · left; rw [h1]; rfl
  · right
    rcases h'.2 with ⟨h2, _⟩ | ⟨g', cap', cur', hv', _, hh', _⟩
    · rw [hv, h2]; intro e; cases e
    · rw [hv, hv']
      intro e
      have e : some g = some g' := e
      cases e
      rw [hh] at hh'
      simp at hh'
end Go.Proofs.Ytcgmllamiaflcaa

/- The reference's matrices: products (Product). -/
namespace Go.Proofs.Ytcgmllamiaflcaa
open Go.RowKit Go.Sort

end Go.Proofs.Ytcgmllamiaflcaa

/- The reference's matrices: which may be (MatrixMay). -/
namespace Go.Proofs.Ytcgmllamiaflcaa
open Go.RowKit Go.Sort

end Go.Proofs.Ytcgmllamiaflcaa

/- The program's matrices: how many columns there are (width), which row may stand (checkRow), which matrix may be (Check). -/
namespace Go.Proofs.Ytcgmllamiaflcaa
open Go.RowKit

end Go.Proofs.Ytcgmllamiaflcaa

/- The program's matrices: how many columns there are (width), which row may stand (checkRow), which matrix may be (Check). -/
namespace Go.Proofs.Ytcgmllamiaflcaa
open Go.RowKit

end Go.Proofs.Ytcgmllamiaflcaa

/- The library's search with a function value: where the first number is of which it holds; which row may stand in a matrix (checkRow). -/
namespace Go.Proofs.Ytcgmllamiaflcaa
open Go.RowKit

end Go.Proofs.Ytcgmllamiaflcaa

/- The program's matrices: which row may stand (checkRow), which matrix may be (Check), over which field (over). -/
namespace Go.Proofs.Ytcgmllamiaflcaa
open Go.RowKit

end Go.Proofs.Ytcgmllamiaflcaa

/- The program's matrices: which may be (Check), and over which field (over). -/
namespace Go.Proofs.Ytcgmllamiaflcaa
open Go.RowKit

end Go.Proofs.Ytcgmllamiaflcaa

/- The program's matrices: no field (over); adding a multiple of a row to another, in place (addTo). -/
namespace Go.Proofs.Ytcgmllamiaflcaa
open Go.RowKit

end Go.Proofs.Ytcgmllamiaflcaa

/- The program's matrices: rows that a call makes for itself and writes into (Mx); a copy of a matrix, with columns of noughts behind it (wider). -/
namespace Go.Proofs.Ytcgmllamiaflcaa
open Go.RowKit

end Go.Proofs.Ytcgmllamiaflcaa

/- The program's matrices: a copy of a matrix, with columns of noughts behind it (wider). -/
namespace Go.Proofs.Ytcgmllamiaflcaa
open Go.RowKit

end Go.Proofs.Ytcgmllamiaflcaa

/- The program's matrices: the field of one matrix or of two that may be; a matrix that may be, row by row. -/
namespace Go.Proofs.Ytcgmllamiaflcaa
open Go.RowKit

end Go.Proofs.Ytcgmllamiaflcaa

/- The program's matrices: products (Times). -/
namespace Go.Proofs.Ytcgmllamiaflcaa
open Go.RowKit

end Go.Proofs.Ytcgmllamiaflcaa

/- The program's matrices: a column cleared by a row (clearColumn). -/
namespace Go.Proofs.Ytcgmllamiaflcaa
open Go.RowKit

end Go.Proofs.Ytcgmllamiaflcaa

/- Plain mathematics: bringing rows to their one form, column by column, as the program does. -/
namespace Go.Proofs.Ytcgmllamiaflcaa
open Go.RowKit

end Go.Proofs.Ytcgmllamiaflcaa

/- Plain mathematics: one row for each column in which no row of a reduced form begins (Null). -/
namespace Go.Proofs.Ytcgmllamiaflcaa

end Go.Proofs.Ytcgmllamiaflcaa

/- Plain mathematics: linear equations (Solve): the rows with what they are to be behind them. -/
namespace Go.Proofs.Ytcgmllamiaflcaa

end Go.Proofs.Ytcgmllamiaflcaa

/- A list of lists of numbers that a statement is given, opened. -/
namespace Go.Proofs.Ytcgmllamiaflcaa
open Go.ChangeShapes Go.WideShapes Go.ChangeAt Go.RowKit

end Go.Proofs.Ytcgmllamiaflcaa

/- How heavy a list of lists is that a statement is given. -/
namespace Go.Proofs.Ytcgmllamiaflcaa
open Go.RowKit Go.Sort

end Go.Proofs.Ytcgmllamiaflcaa

/- The program's polynomials: a sum with an empty list, wherever that lies. -/
namespace Go.Proofs.Ytcgmllamiaflcaa
open Go.RowKit Go.Sort

end Go.Proofs.Ytcgmllamiaflcaa

/- Curves (lists.Curve): what both sides reckon; the calls that they make. -/
namespace Go.Proofs.Ytcgmllamiaflcaa
open Go.RowKit Go.Sort

theorem chk_nat {D : FD} {n : Nat} {c : Nat → Nat} (h : El D c) (hn : n ≤ 128) : D.chk n (fun j => ((c j : Nat) : Int)) = 0 := by
  unfold FD.chk
  rw [if_neg (by omega), if_pos (allHas_iff.2 (fun j _ => has_of_lt (h j)))]
end Go.Proofs.Ytcgmllamiaflcaa

/- Curves: the program's, and the reference's. -/
namespace Go.Proofs.Ytcgmllamiaflcaa
open Go.RowKit Go.Sort

end Go.Proofs.Ytcgmllamiaflcaa

/- Curves: the reference's. -/
namespace Go.Proofs.Ytcgmllamiaflcaa
open Go.RowKit Go.Sort

end Go.Proofs.Ytcgmllamiaflcaa

/- ListsCurve: the walk of the statement, whatever it is given. -/
namespace Go.Proofs.Ytcgmllamiaflcaa
open Go.RowKit Go.Sort

end Go.Proofs.Ytcgmllamiaflcaa
