/- Texts of ours, one behind the other: X1 X2 X3 X4 X5 X6 X7 X8 X9 X10 X11 S3 X12 X13 X14 X15 X16 S4 T9 X17 X18 S5. -/
import Derived.Test.YtnjbnamcedfjaaaZT2
import Derived.Shelf.Abstract
import Derived.Test.YtnjbnamcedfjaaaZS1
import Derived.BigRegion
import Derived.Test.YtnjbnamcedfjaaaZL1
import Derived.Test.YtnjbnamcedfjaaaZT3
import Derived.Test.YtnjbnamcedfjaaaZR9
import Derived.Test.YtnjbnamcedfjaaaZL10
/- The program's matrices: how many columns there are (width), which row may stand (checkRow), which matrix may be (Check). -/
namespace Go.Proofs.Ytnjbnamcedfjaaa
open Go.RowKit

end Go.Proofs.Ytnjbnamcedfjaaa

/- The program's matrices: how many columns there are (width), which row may stand (checkRow), which matrix may be (Check). -/
namespace Go.Proofs.Ytnjbnamcedfjaaa
open Go.RowKit

end Go.Proofs.Ytnjbnamcedfjaaa

/- The library's search with a function value: where the first number is of which it holds; which row may stand in a matrix (checkRow). -/
namespace Go.Proofs.Ytnjbnamcedfjaaa
open Go.RowKit

end Go.Proofs.Ytnjbnamcedfjaaa

/- The program's matrices: which row may stand (checkRow), which matrix may be (Check), over which field (over). -/
namespace Go.Proofs.Ytnjbnamcedfjaaa
open Go.RowKit

end Go.Proofs.Ytnjbnamcedfjaaa

/- The program's matrices: which may be (Check), and over which field (over). -/
namespace Go.Proofs.Ytnjbnamcedfjaaa
open Go.RowKit

end Go.Proofs.Ytnjbnamcedfjaaa

/- The program's matrices: no field (over); adding a multiple of a row to another, in place (addTo). -/
namespace Go.Proofs.Ytnjbnamcedfjaaa
open Go.RowKit

end Go.Proofs.Ytnjbnamcedfjaaa

/- The program's matrices: rows that a call makes for itself and writes into (Mx); a copy of a matrix, with columns of noughts behind it (wider). -/
namespace Go.Proofs.Ytnjbnamcedfjaaa
open Go.RowKit

end Go.Proofs.Ytnjbnamcedfjaaa

/- The program's matrices: a copy of a matrix, with columns of noughts behind it (wider). -/
namespace Go.Proofs.Ytnjbnamcedfjaaa
open Go.RowKit

end Go.Proofs.Ytnjbnamcedfjaaa

/- The program's matrices: the field of one matrix or of two that may be; a matrix that may be, row by row. -/
namespace Go.Proofs.Ytnjbnamcedfjaaa
open Go.RowKit

end Go.Proofs.Ytnjbnamcedfjaaa

/- The program's matrices: products (Times). -/
namespace Go.Proofs.Ytnjbnamcedfjaaa
open Go.RowKit

end Go.Proofs.Ytnjbnamcedfjaaa

/- The program's matrices: a column cleared by a row (clearColumn). -/
namespace Go.Proofs.Ytnjbnamcedfjaaa
open Go.RowKit

end Go.Proofs.Ytnjbnamcedfjaaa

/- Plain mathematics: bringing rows to their one form, column by column, as the program does. -/
namespace Go.Proofs.Ytnjbnamcedfjaaa
open Go.RowKit

end Go.Proofs.Ytnjbnamcedfjaaa

/- The program's matrices: the first row that is not 0 in a column. -/
namespace Go.Proofs.Ytnjbnamcedfjaaa
open Go.RowKit

end Go.Proofs.Ytnjbnamcedfjaaa

/- The program's matrices: two rows change places; rows that are left as they are. -/
namespace Go.Proofs.Ytnjbnamcedfjaaa
open Go.RowKit

end Go.Proofs.Ytnjbnamcedfjaaa

/- The program's matrices: rows brought to their one form (reduce). -/
namespace Go.Proofs.Ytnjbnamcedfjaaa
open Go.RowKit

end Go.Proofs.Ytnjbnamcedfjaaa

/- The program's matrices: the one form of what rows span (Reduce). -/
namespace Go.Proofs.Ytnjbnamcedfjaaa
open Go.RowKit

end Go.Proofs.Ytnjbnamcedfjaaa

/- The program's matrices: ranks (Rank); what is said where there is no field. -/
namespace Go.Proofs.Ytnjbnamcedfjaaa
open Go.RowKit

end Go.Proofs.Ytnjbnamcedfjaaa

/- Plain mathematics: one row for each column in which no row of a reduced form begins (Null). -/
namespace Go.Proofs.Ytnjbnamcedfjaaa

end Go.Proofs.Ytnjbnamcedfjaaa

/- The reference's matrices: the rows that make all rows 0 (Null). -/
namespace Go.Proofs.Ytnjbnamcedfjaaa
open Go.RowKit Go.Sort

theorem rneg_nat {D : FD} (hD : D ∈ fieldsL) (gen : Nat) (v : Value) (a : Nat) (ha : a < D.q) (wr : World) :
    Calls Try.prog 73 #[.agg #[.int .i64 D.q, .int .i64 D.p, .int .i64 D.m, .int .i64 gen, v], .int .i64 a] wr fun e w' => e = .returned (.int .i64 (D.ng a : Nat)) ∧ Below wr.heap.size wr w' := by
  have h := rneg_any hD gen v a wr
  rw [negZ_nat (fld hD) ha] at h
  exact h
theorem RwsO.matR {base : Nat} {ro : Option Addr} {k rc n : Nat} {R : Nat → Nat → Nat} {vs : Nat → Value} {w : World} (h : RwsO base ro k rc n R vs w) : MatR ro k n R w := fun i hi => by
  obtain ⟨g, e, hc, _⟩ := h.cell i hi
  exact ⟨g, 0, _, e, by rw [Nat.zero_add]; exact hc, (h.row i hi).rwv⟩

end Go.Proofs.Ytnjbnamcedfjaaa

/- The program's matrices: is a number in a list (slices.Contains); the rows that make a reduced form 0 (madeNought). -/
namespace Go.Proofs.Ytnjbnamcedfjaaa
open Go.RowKit

end Go.Proofs.Ytnjbnamcedfjaaa

/- The program's matrices: what makes all rows 0 (Null); matrices as they are told. -/
namespace Go.Proofs.Ytnjbnamcedfjaaa
open Go.RowKit

/-- The slice v reads as k rows R of n elements. -/
def RL (v : Value) (k n : Nat) (R : Nat → Nat → Nat) (w : World) : Prop := ∃ ao ca, v = .slice ao k ca ∧ ∀ i, i < k → ∃ b off x cx, ao = some ⟨b, off, none⟩ ∧ w.cell? ⟨b, off + i, none⟩ = some (.slice x n cx) ∧ Sl x n (R i) w
theorem RL.below {v : Value} {k n : Nat} {R : Nat → Nat → Nat} {w w' : World} (h : RL v k n R w) (hb : Below w.heap.size w w') : RL v k n R w' := by
  obtain ⟨ao, ca, e, h⟩ := h
  refine ⟨ao, ca, e, fun i hi => ?_⟩
  obtain ⟨b, off, x, cx, e1, hc, hs⟩ := h i hi
  exact ⟨b, off, x, cx, e1, ((bcell hb).1 b (off + i) (cell_lt hc)).trans hc, slz_below hs hb⟩
theorem RL.congr {v : Value} {k n : Nat} {R R' : Nat → Nat → Nat} {w : World} (h : RL v k n R w) (e : ∀ i, i < k → R i = R' i) : RL v k n R' w := by
  obtain ⟨ao, ca, e1, h⟩ := h
  exact ⟨ao, ca, e1, fun i hi => by rw [← e i hi]; exact h i hi⟩
theorem LLs.rl {base : Nat} {v : Value} {k n : Nat} {R : Nat → Nat → Nat} {w : World} (h : LLs base v (rl k n R) w) : RL v k (n + 1) R w := by
  obtain ⟨ro, rc, vs, rfl, hw⟩ := h.rws
  refine ⟨ro, rc, rfl, fun i hi => ?_⟩
  obtain ⟨g, e, hc, _⟩ := hw.cell i hi
  obtain ⟨x, cx, e2, hs, _⟩ := (hw.row i hi).rwv
  exact ⟨g, 0, x, cx, e, by rw [Nat.zero_add, ← e2]; exact hc, hs⟩
theorem RL.nil (n : Nat) (R : Nat → Nat → Nat) (w : World) : RL (.slice none 0 0) 0 n R w := ⟨none, 0, rfl, fun i hi => by omega⟩

end Go.Proofs.Ytnjbnamcedfjaaa

/- Plain mathematics: linear equations (Solve): the rows with what they are to be behind them. -/
namespace Go.Proofs.Ytnjbnamcedfjaaa

/-- The rows M of n numbers, each with one number more. -/
def aug (n : Nat) (M : Nat → Nat → Nat) (b : Nat → Nat) : Nat → Nat → Nat := fun i j => if j = n then b i else M i j
theorem aug_el {D : FD} {n : Nat} {M : Nat → Nat → Nat} {b : Nat → Nat} {i : Nat} (h : El D (M i)) (hb : b i < D.q) : El D (aug n M b i) := fun j => by
  unfold aug
  by_cases e : j = n
  · rw [if_pos e]; exact hb
  · rw [if_neg e]; exact h j
theorem aug_bd {n : Nat} {M : Nat → Nat → Nat} {b : Nat → Nat} {i : Nat} (h : Bd n (M i)) : Bd (n + 1) (aug n M b i) := fun j hj => by
  unfold aug
  rw [if_neg (by omega)]; exact h j (by omega)
/-- The solution that a reduced form tells, by its first r rows. -/
def slx (R : Nat → Nat → Nat) (p : Nat → Nat) (n : Nat) : Nat → Nat → Nat
  | 0, _ => 0
  | r + 1, j => if j = p r then R r n else slx R p n r j
/-- The first n numbers. -/
def cutN (n : Nat) (v : Nat → Nat) : Nat → Nat := fun j => if j < n then v j else 0
end Go.Proofs.Ytnjbnamcedfjaaa
