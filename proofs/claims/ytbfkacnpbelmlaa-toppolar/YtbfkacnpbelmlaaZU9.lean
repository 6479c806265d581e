/- Texts of ours, one behind the other: U9 U10 U11 U12 U13 U14 U15 U16 U17 V1 V2 V3 W5 V4 V5. -/
import Derived.Test.YtbfkacnpbelmlaaZW4
import Derived.Test.YtbfkacnpbelmlaaZR14
import Derived.Lib.QuietBelow
/- The program's polynomials: which may be (Check), and over which field (over). -/
namespace Go.Proofs.Ytbfkacnpbelmlaa
open Go.RowKit

/-- The first n numbers of the slice that begins at ao are z. -/
def SlZ (ao : Option Addr) (n : Nat) (z : Nat → Int) (w : World) : Prop := ∀ j, j < n → ∃ b off, ao = some ⟨b, off, none⟩ ∧ w.cell? ⟨b, off + j, none⟩ = some (.int .i64 (z j))
theorem SlZ.below {ao : Option Addr} {n B : Nat} {z : Nat → Int} {w w' : World} (h : SlZ ao n z w) (hb : Below B w w') (hB : LtB ao B) : SlZ ao n z w' := fun j hj => by
  obtain ⟨b, off, rfl, hc⟩ := h j hj
  exact ⟨b, off, rfl, ((bcell hb).1 b (off + j) (hB _ rfl)).trans hc⟩
end Go.Proofs.Ytbfkacnpbelmlaa

/- The program's polynomials: the calls that are listed: Add. -/
namespace Go.Proofs.Ytbfkacnpbelmlaa
open Go.RowKit

/-- A list that is handed in: where it lies, how long it is, its numbers. -/
structure Arg (ao : Option Addr) (n cap : Nat) (z : Nat → Int) (w : World) : Prop where
  sl : SlZ ao n z w
  lt : LtB ao w.heap.size
  few : n ≤ 1000000
  nil : ao = none → cap = 0
  le : n ≤ cap
  cap : cap ≤ 9223372036854775807
theorem Arg.below {ao : Option Addr} {n cap : Nat} {z : Nat → Int} {w w' : World} (h : Arg ao n cap z w) (hb : Below w.heap.size w w') : Arg ao n cap z w' :=
  ⟨h.sl.below hb h.lt, h.lt.mono hb.size, h.few, h.nil, h.le, h.cap⟩

end Go.Proofs.Ytbfkacnpbelmlaa

/- The program's polynomials: the calls that are listed: Mul, Div, At. -/
namespace Go.Proofs.Ytbfkacnpbelmlaa
open Go.RowKit

end Go.Proofs.Ytbfkacnpbelmlaa

/- The program's polynomials: the calls that are listed: Div, At. -/
namespace Go.Proofs.Ytbfkacnpbelmlaa
open Go.RowKit

end Go.Proofs.Ytbfkacnpbelmlaa

/- The program's polynomials: the calls that are listed: At, Roots. -/
namespace Go.Proofs.Ytbfkacnpbelmlaa
open Go.RowKit

end Go.Proofs.Ytbfkacnpbelmlaa

/- The program's polynomials: the calls that are listed: Roots. -/
namespace Go.Proofs.Ytbfkacnpbelmlaa
open Go.RowKit

end Go.Proofs.Ytbfkacnpbelmlaa

/- The program's polynomials: with 1 at the end (monic); the calls that are listed: Gcd. -/
namespace Go.Proofs.Ytbfkacnpbelmlaa
open Go.RowKit

end Go.Proofs.Ytbfkacnpbelmlaa

/- How many there are to try (tooMany, Tries). -/
namespace Go.Proofs.Ytbfkacnpbelmlaa
open Go.RowKit

end Go.Proofs.Ytbfkacnpbelmlaa

/- Does an element stand twice in a list (hasTwice)? -/
namespace Go.Proofs.Ytbfkacnpbelmlaa
open Go.RowKit

end Go.Proofs.Ytbfkacnpbelmlaa

/- The reference's polynomials: without noughts at the end (Trim); which may be (PolyMay). -/
namespace Go.Proofs.Ytbfkacnpbelmlaa
open Go.RowKit

end Go.Proofs.Ytbfkacnpbelmlaa

/- The reference's polynomials: which may be (PolyMay). -/
namespace Go.Proofs.Ytbfkacnpbelmlaa
open Go.RowKit

end Go.Proofs.Ytbfkacnpbelmlaa

/- The reference's polynomials: sums (PAdd). -/
namespace Go.Proofs.Ytbfkacnpbelmlaa
open Go.RowKit

end Go.Proofs.Ytbfkacnpbelmlaa

/- The same where the calls lay blocks: the worlds in which nothing that was there has turned. No Go text here. -/
namespace Go.Proofs.Ytbfkacnpbelmlaa
open Go Go.Sort Go.RowKit

end Go.Proofs.Ytbfkacnpbelmlaa

/- The reference's polynomials: products (PMul). -/
namespace Go.Proofs.Ytbfkacnpbelmlaa
open Go.RowKit Go.Sort

end Go.Proofs.Ytbfkacnpbelmlaa

/- The reference's polynomials: values of a polynomial that came in (value, PAt). -/
namespace Go.Proofs.Ytbfkacnpbelmlaa
open Go.RowKit

end Go.Proofs.Ytbfkacnpbelmlaa
