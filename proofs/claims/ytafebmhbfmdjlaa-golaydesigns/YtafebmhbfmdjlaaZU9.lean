/- Texts of ours, one behind the other: U9 U10 U11 U12 U13 U14 U15 U16 U17 V1 V2 V3 W5 V4 V5. -/
import Derived.Test.YtafebmhbfmdjlaaZW4
import Derived.Test.YtafebmhbfmdjlaaZR5
import Derived.Lib.QuietBelow
/- The program's polynomials: which may be (Check), and over which field (over). -/
namespace Go.Proofs.Ytafebmhbfmdjlaa
open Go.RowKit

/-- The first n numbers of the slice that begins at ao are z. -/
def SlZ (ao : Option Addr) (n : Nat) (z : Nat → Int) (w : World) : Prop := ∀ j, j < n → ∃ b off, ao = some ⟨b, off, none⟩ ∧ w.cell? ⟨b, off + j, none⟩ = some (.int .i64 (z j))
theorem SlZ.below {ao : Option Addr} {n B : Nat} {z : Nat → Int} {w w' : World} (h : SlZ ao n z w) (hb : Below B w w') (hB : LtB ao B) : SlZ ao n z w' := fun j hj => by
  obtain ⟨b, off, rfl, hc⟩ := h j hj
  exact ⟨b, off, rfl, ((bcell hb).1 b (off + j) (hB _ rfl)).trans hc⟩
end Go.Proofs.Ytafebmhbfmdjlaa

/- The program's polynomials: the calls that are listed: Add. -/
namespace Go.Proofs.Ytafebmhbfmdjlaa
open Go.RowKit

end Go.Proofs.Ytafebmhbfmdjlaa

/- The program's polynomials: the calls that are listed: Mul, Div, At. -/
namespace Go.Proofs.Ytafebmhbfmdjlaa
open Go.RowKit

end Go.Proofs.Ytafebmhbfmdjlaa

/- The program's polynomials: the calls that are listed: Div, At. -/
namespace Go.Proofs.Ytafebmhbfmdjlaa
open Go.RowKit

end Go.Proofs.Ytafebmhbfmdjlaa

/- The program's polynomials: the calls that are listed: At, Roots. -/
namespace Go.Proofs.Ytafebmhbfmdjlaa
open Go.RowKit

end Go.Proofs.Ytafebmhbfmdjlaa

/- The program's polynomials: the calls that are listed: Roots. -/
namespace Go.Proofs.Ytafebmhbfmdjlaa
open Go.RowKit

end Go.Proofs.Ytafebmhbfmdjlaa

/- The program's polynomials: with 1 at the end (monic); the calls that are listed: Gcd. -/
namespace Go.Proofs.Ytafebmhbfmdjlaa
open Go.RowKit

end Go.Proofs.Ytafebmhbfmdjlaa

/- How many there are to try (tooMany, Tries). -/
namespace Go.Proofs.Ytafebmhbfmdjlaa
open Go.RowKit

end Go.Proofs.Ytafebmhbfmdjlaa

/- Does an element stand twice in a list (hasTwice)? -/
namespace Go.Proofs.Ytafebmhbfmdjlaa
open Go.RowKit

end Go.Proofs.Ytafebmhbfmdjlaa

/- The reference's polynomials: without noughts at the end (Trim); which may be (PolyMay). -/
namespace Go.Proofs.Ytafebmhbfmdjlaa
open Go.RowKit

end Go.Proofs.Ytafebmhbfmdjlaa

/- The reference's polynomials: which may be (PolyMay). -/
namespace Go.Proofs.Ytafebmhbfmdjlaa
open Go.RowKit

end Go.Proofs.Ytafebmhbfmdjlaa

/- The reference's polynomials: sums (PAdd). -/
namespace Go.Proofs.Ytafebmhbfmdjlaa
open Go.RowKit

end Go.Proofs.Ytafebmhbfmdjlaa

/- The same where the calls lay blocks: the worlds in which nothing that was there has turned. No Go text here. -/
namespace Go.Proofs.Ytafebmhbfmdjlaa
open Go Go.Sort Go.RowKit

end Go.Proofs.Ytafebmhbfmdjlaa

/- The reference's polynomials: products (PMul). -/
namespace Go.Proofs.Ytafebmhbfmdjlaa
open Go.RowKit Go.Sort

end Go.Proofs.Ytafebmhbfmdjlaa

/- The reference's polynomials: values of a polynomial that came in (value, PAt). -/
namespace Go.Proofs.Ytafebmhbfmdjlaa
open Go.RowKit

end Go.Proofs.Ytafebmhbfmdjlaa
