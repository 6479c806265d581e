/- Texts of ours, one behind the other: U7 U8 U9 U10 U11 U12 U13 U14 U15 U16 U17 V1 V2 V3 W5 V4 V5. -/
import Derived.Test.YtlljaliemldjkaaZN2
import Derived.Test.YtlljaliemldjkaaZR5
import Derived.Lib.QuietBelow
/- The program's division of polynomials. -/
namespace Go.Proofs.Ytlljaliemldjkaa
open Go.RowKit

end Go.Proofs.Ytlljaliemldjkaa

/- The program's division of polynomials: the walk. -/
namespace Go.Proofs.Ytlljaliemldjkaa
open Go.RowKit

end Go.Proofs.Ytlljaliemldjkaa

/- The program's polynomials: which may be (Check), and over which field (over). -/
namespace Go.Proofs.Ytlljaliemldjkaa
open Go.RowKit

/-- The first n numbers of the slice that begins at ao are z. -/
def SlZ (ao : Option Addr) (n : Nat) (z : Nat → Int) (w : World) : Prop := ∀ j, j < n → ∃ b off, ao = some ⟨b, off, none⟩ ∧ w.cell? ⟨b, off + j, none⟩ = some (.int .i64 (z j))
theorem SlZ.below {ao : Option Addr} {n B : Nat} {z : Nat → Int} {w w' : World} (h : SlZ ao n z w) (hb : Below B w w') (hB : LtB ao B) : SlZ ao n z w' := fun j hj => by
  obtain ⟨b, off, rfl, hc⟩ := h j hj
  exact ⟨b, off, rfl, ((bcell hb).1 b (off + j) (hB _ rfl)).trans hc⟩
theorem Sl.z {ao : Option Addr} {n : Nat} {c : Nat → Nat} {w : World} (h : Sl ao n c w) : SlZ ao n (fun j => (c j : Nat)) w := h
end Go.Proofs.Ytlljaliemldjkaa

/- The program's polynomials: the calls that are listed: Add. -/
namespace Go.Proofs.Ytlljaliemldjkaa
open Go.RowKit

end Go.Proofs.Ytlljaliemldjkaa

/- The program's polynomials: the calls that are listed: Mul, Div, At. -/
namespace Go.Proofs.Ytlljaliemldjkaa
open Go.RowKit

end Go.Proofs.Ytlljaliemldjkaa

/- The program's polynomials: the calls that are listed: Div, At. -/
namespace Go.Proofs.Ytlljaliemldjkaa
open Go.RowKit

/-- The quotient and the rest of two polynomials of n and m coefficients. -/
def FD.quo (D : FD) (a : Nat → Nat) (n : Nat) (b : Nat → Nat) (m : Nat) : Nat → Nat := divQ D b (dgn b m - 1) (D.iv (b (dgn b m - 1))) (n - (dgn b m - 1)) a
end Go.Proofs.Ytlljaliemldjkaa

/- The program's polynomials: the calls that are listed: At, Roots. -/
namespace Go.Proofs.Ytlljaliemldjkaa
open Go.RowKit

end Go.Proofs.Ytlljaliemldjkaa

/- The program's polynomials: the calls that are listed: Roots. -/
namespace Go.Proofs.Ytlljaliemldjkaa
open Go.RowKit

end Go.Proofs.Ytlljaliemldjkaa

/- The program's polynomials: with 1 at the end (monic); the calls that are listed: Gcd. -/
namespace Go.Proofs.Ytlljaliemldjkaa
open Go.RowKit

end Go.Proofs.Ytlljaliemldjkaa

/- How many there are to try (tooMany, Tries). -/
namespace Go.Proofs.Ytlljaliemldjkaa
open Go.RowKit

end Go.Proofs.Ytlljaliemldjkaa

/- Does an element stand twice in a list (hasTwice)? -/
namespace Go.Proofs.Ytlljaliemldjkaa
open Go.RowKit

end Go.Proofs.Ytlljaliemldjkaa

/- The reference's polynomials: without noughts at the end (Trim); which may be (PolyMay). -/
namespace Go.Proofs.Ytlljaliemldjkaa
open Go.RowKit

end Go.Proofs.Ytlljaliemldjkaa

/- The reference's polynomials: which may be (PolyMay). -/
namespace Go.Proofs.Ytlljaliemldjkaa
open Go.RowKit

end Go.Proofs.Ytlljaliemldjkaa

/- The reference's polynomials: sums (PAdd). -/
namespace Go.Proofs.Ytlljaliemldjkaa
open Go.RowKit

end Go.Proofs.Ytlljaliemldjkaa

/- The same where the calls lay blocks: the worlds in which nothing that was there has turned. No Go text here. -/
namespace Go.Proofs.Ytlljaliemldjkaa
open Go Go.Sort Go.RowKit

end Go.Proofs.Ytlljaliemldjkaa

/- The reference's polynomials: products (PMul). -/
namespace Go.Proofs.Ytlljaliemldjkaa
open Go.RowKit Go.Sort

end Go.Proofs.Ytlljaliemldjkaa

/- The reference's polynomials: values of a polynomial that came in (value, PAt). -/
namespace Go.Proofs.Ytlljaliemldjkaa
open Go.RowKit

end Go.Proofs.Ytlljaliemldjkaa
