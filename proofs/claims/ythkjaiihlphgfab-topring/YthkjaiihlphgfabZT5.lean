/- Texts of ours, one behind the other: T5 X1 X2 X3 X4 X5 X6 X7 X8 X9 X10 X11 S3 X12 X13 S4 S5 S8 S9 S10 S11 W11 S20 KA1 KA2 KA3 S23 W13 S31. -/
import Derived.Test.YthkjaiihlphgfabZL10
import Derived.Shelf.Abstract
import Derived.Test.YthkjaiihlphgfabZL1
import Derived.Test.YthkjaiihlphgfabZV7
import Derived.Test.YthkjaiihlphgfabZN3
import Derived.Deep.RegionHeld3
import Derived.WalkKit
import Derived.Test.YthkjaiihlphgfabZA1
import Derived.Test.YthkjaiihlphgfabZW3
import Derived.Test.YthkjaiihlphgfabZM3
import Derived.Deep.CutBlock
import Derived.Deep.DeepCutAuto
/- The reference's matrices: which may be (MatrixMay). -/
namespace Go.Proofs.Ythkjaiihlphgfab
open Go.RowKit Go.Sort

end Go.Proofs.Ythkjaiihlphgfab

/- The program's matrices: how many columns there are (width), which row may stand (checkRow), which matrix may be (Check). -/
namespace Go.Proofs.Ythkjaiihlphgfab
open Go.RowKit

end Go.Proofs.Ythkjaiihlphgfab

/- The program's matrices: how many columns there are (width), which row may stand (checkRow), which matrix may be (Check). -/
namespace Go.Proofs.Ythkjaiihlphgfab
open Go.RowKit

end Go.Proofs.Ythkjaiihlphgfab

/- The library's search with a function value: where the first number is of which it holds; which row may stand in a matrix (checkRow). -/
namespace Go.Proofs.Ythkjaiihlphgfab
open Go.RowKit

end Go.Proofs.Ythkjaiihlphgfab

/- The program's matrices: which row may stand (checkRow), which matrix may be (Check), over which field (over). -/
namespace Go.Proofs.Ythkjaiihlphgfab
open Go.RowKit

end Go.Proofs.Ythkjaiihlphgfab

/- The program's matrices: which may be (Check), and over which field (over). -/
namespace Go.Proofs.Ythkjaiihlphgfab
open Go.RowKit

end Go.Proofs.Ythkjaiihlphgfab

/- The program's matrices: no field (over); adding a multiple of a row to another, in place (addTo). -/
namespace Go.Proofs.Ythkjaiihlphgfab
open Go.RowKit

end Go.Proofs.Ythkjaiihlphgfab

/- The program's matrices: rows that a call makes for itself and writes into (Mx); a copy of a matrix, with columns of noughts behind it (wider). -/
namespace Go.Proofs.Ythkjaiihlphgfab
open Go.RowKit

end Go.Proofs.Ythkjaiihlphgfab

/- The program's matrices: a copy of a matrix, with columns of noughts behind it (wider). -/
namespace Go.Proofs.Ythkjaiihlphgfab
open Go.RowKit

end Go.Proofs.Ythkjaiihlphgfab

/- The program's matrices: the field of one matrix or of two that may be; a matrix that may be, row by row. -/
namespace Go.Proofs.Ythkjaiihlphgfab
open Go.RowKit

end Go.Proofs.Ythkjaiihlphgfab

/- The program's matrices: products (Times). -/
namespace Go.Proofs.Ythkjaiihlphgfab
open Go.RowKit

end Go.Proofs.Ythkjaiihlphgfab

/- The program's matrices: a column cleared by a row (clearColumn). -/
namespace Go.Proofs.Ythkjaiihlphgfab
open Go.RowKit

end Go.Proofs.Ythkjaiihlphgfab

/- Plain mathematics: bringing rows to their one form, column by column, as the program does. -/
namespace Go.Proofs.Ythkjaiihlphgfab
open Go.RowKit

end Go.Proofs.Ythkjaiihlphgfab

/- The program's matrices: the first row that is not 0 in a column. -/
namespace Go.Proofs.Ythkjaiihlphgfab
open Go.RowKit

end Go.Proofs.Ythkjaiihlphgfab

/- The program's matrices: two rows change places; rows that are left as they are. -/
namespace Go.Proofs.Ythkjaiihlphgfab
open Go.RowKit

end Go.Proofs.Ythkjaiihlphgfab

/- Plain mathematics: one row for each column in which no row of a reduced form begins (Null). -/
namespace Go.Proofs.Ythkjaiihlphgfab

end Go.Proofs.Ythkjaiihlphgfab

/- Plain mathematics: linear equations (Solve): the rows with what they are to be behind them. -/
namespace Go.Proofs.Ythkjaiihlphgfab

end Go.Proofs.Ythkjaiihlphgfab

/- Plain mathematics: the shortest rule of a list (Berlekamp and Massey). -/
namespace Go.Proofs.Ythkjaiihlphgfab

end Go.Proofs.Ythkjaiihlphgfab

/- Equations that can be met, and the rules of shorter length. -/
namespace Go.Proofs.Ythkjaiihlphgfab
open Go.RowKit Go.Sort

end Go.Proofs.Ythkjaiihlphgfab

/- Lists that a rule makes: the shortest rule of enough of them makes the rest. -/
namespace Go.Proofs.Ythkjaiihlphgfab
open Go.RowKit Go.Sort

end Go.Proofs.Ythkjaiihlphgfab

/- A polynomial that is not nought has fewer roots than coefficients; words of few coefficients are far apart. -/
namespace Go.Proofs.Ythkjaiihlphgfab
open Go.RowKit Go.Sort

end Go.Proofs.Ythkjaiihlphgfab

/- A region that draws its order and whose last operation, which waits for all others, writes what another one reads. No Go text here. -/
namespace Go.Proofs.Ythkjaiihlphgfab
open Go

end Go.Proofs.Ythkjaiihlphgfab

/- Plain mathematics: how many sets there are; Krawtchouk's numbers. No Go text here. -/
namespace Go.Proofs.Ythkjaiihlphgfab

end Go.Proofs.Ythkjaiihlphgfab

/- Weights: powers and numbers of sets (the program's power, over). -/
namespace Go.Proofs.Ythkjaiihlphgfab
open Go.RowKit

theorem wrap_ka {a : Int} (h1 : -9223372036854775808 ≤ a) (h2 : a ≤ 9223372036854775807) : IntKind.i64.wrap a = a := by
  rw [IntKind.wrap_i64]
  first | omega | (unfold wrap64; omega)
end Go.Proofs.Ythkjaiihlphgfab

/- Weights: Krawtchouk's numbers (the program's krawtchouk). -/
namespace Go.Proofs.Ythkjaiihlphgfab
open Go.RowKit

end Go.Proofs.Ythkjaiihlphgfab

/- Weights: Krawtchouk's numbers (the reference's Kraw). -/
namespace Go.Proofs.Ythkjaiihlphgfab
open Go.RowKit

/-- Whole numbers, below 0 too, in a row of the call's own. -/
def RowZ (g N : Nat) (z : Nat → Int) (w : World) : Prop := ∃ cap f, RowF g cap 3 f w ∧ N ≤ cap ∧ ∀ k, k < N → f k = .int .i64 (z k)
theorem RowZ.of {g N : Nat} {c : Nat → Nat} {w : World} (h : Row g N c w) : RowZ g N (fun k => ((c k : Nat) : Int)) w := by
  obtain ⟨cap, f, h1, h2, h3⟩ := h
  exact ⟨cap, f, h1, h2, h3⟩
theorem RowZ.cell {g N : Nat} {z : Nat → Int} {w : World} (h : RowZ g N z w) (k : Nat) (hk : k < N) : w.cell? ⟨g, k, none⟩ = some (.int .i64 (z k)) := by
  obtain ⟨cap, f, h1, h2, h3⟩ := h
  rw [h1.cell k (by omega), h3 k hk]
theorem RowZ.free {g N : Nat} {z : Nat → Int} {w : World} (h : RowZ g N z w) (k : Nat) : w.frozen? ⟨g, k, none⟩ = false := by
  obtain ⟨cap, f, h1, h2, h3⟩ := h
  exact h1.free k
theorem RowZ.store {g N : Nat} {z y : Nat → Int} {w : World} (h : RowZ g N z w) (k : Nat) (v : Int) (hd : ∀ j, j < N → y j = if j = k then v else z j) : RowZ g N y (w.setCell ⟨g, k, none⟩ (.int .i64 v)) := by
  obtain ⟨cap, f, h1, h2, h3⟩ := h
  refine ⟨cap, _, h1.store k _, h2, fun j hj => ?_⟩
  unfold upd
  rw [hd j hj]
  by_cases e : j = k
  · rw [if_pos e, if_pos e]
  · rw [if_neg e, if_neg e, h3 j hj]
theorem RowZ.congr {g N : Nat} {z y : Nat → Int} {w : World} (h : RowZ g N z w) (e : ∀ k, k < N → z k = y k) : RowZ g N y w := by
  obtain ⟨cap, f, h1, h2, h3⟩ := h
  exact ⟨cap, f, h1, h2, fun k hk => by rw [h3 k hk, e k hk]⟩
theorem RowZ.below {g N B : Nat} {z : Nat → Int} {w w' : World} (h : RowZ g N z w) (hb : Below B w w') (hB : g < B) : RowZ g N z w' := by
  obtain ⟨cap, f, h1, h2, h3⟩ := h
  exact ⟨cap, f, h1.below hb hB, h2, h3⟩
end Go.Proofs.Ythkjaiihlphgfab

/- Plain mathematics: sets that are great and meet little are few (Johnson). No Go text here. -/
namespace Go.Proofs.Ythkjaiihlphgfab

end Go.Proofs.Ythkjaiihlphgfab

/- A region that draws its order and whose late operations, which wait for all that read, write what others read. No Go text here. -/
namespace Go.Proofs.Ythkjaiihlphgfab
open Go

end Go.Proofs.Ythkjaiihlphgfab

/- Plain mathematics of codes of few checks: what a round of peeling fills in, check by check from the first on or from the last on; rounds come to an end. No Go text here. -/
namespace Go.Proofs.Ythkjaiihlphgfab
open Go.RowKit Go.Sort

end Go.Proofs.Ythkjaiihlphgfab
