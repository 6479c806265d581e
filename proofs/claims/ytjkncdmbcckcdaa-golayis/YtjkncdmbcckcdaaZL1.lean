/- Texts of ours, one behind the other: L1 L2 L3 L4 L5 L6 L7 W8 L8. -/
import Derived.Test.YtjkncdmbcckcdaaZV11
import Derived.Test.YtjkncdmbcckcdaaZR9
/- What two answers are held together by: numbers, lists, lists of lists. -/
namespace Go.Proofs.Ytjkncdmbcckcdaa
open Go.RowKit

/-- The reference's field, with its modulus where it lies. -/
theorem rfield_sl {D : FD} (hD : D ∈ fieldsL) (w : World) :
    Calls Try.prog 11 #[.int .i64 D.q] w fun e w' => ∃ gm cm, e = .returned (.tuple #[rf D.q D.p D.m D.gen (.slice (some ⟨gm, 0, none⟩) (D.m + 1) cm), .int .i64 0]) ∧ ModAt D (.slice (some ⟨gm, 0, none⟩) (D.m + 1) cm) D.md w' ∧ Below w.heap.size w w' := by
  refine (rfield_any hD w).mono ?_
  rintro e w' ⟨v, rfl, hown, hmod, hb⟩
  obtain ⟨gm, cm, fm, rfl, _⟩ := hown.row (D.m + 1) modL_len' (by have := (fld hD).m6; omega)
  exact ⟨gm, cm, rfl, hmod, hb⟩
end Go.Proofs.Ytjkncdmbcckcdaa

/- PolySays: values (polyAt). -/
namespace Go.Proofs.Ytjkncdmbcckcdaa
open Go.RowKit

end Go.Proofs.Ytjkncdmbcckcdaa

/- PolySays: roots and parts (polyRoots). -/
namespace Go.Proofs.Ytjkncdmbcckcdaa
open Go.RowKit

end Go.Proofs.Ytjkncdmbcckcdaa

/- PolySays: roots and parts (polyRoots), the rest. -/
namespace Go.Proofs.Ytjkncdmbcckcdaa
open Go.RowKit

end Go.Proofs.Ytjkncdmbcckcdaa

/- PolySays: a polynomial through points (polyThrough). -/
namespace Go.Proofs.Ytjkncdmbcckcdaa
open Go.RowKit Go.Sort

theorem has_of_lt {D : FD} {x : Nat} (h : x < D.q) : D.has (x : Int) = true := by
  unfold FD.has; simp; omega

end Go.Proofs.Ytjkncdmbcckcdaa

/- PolySays: a polynomial through points (polyThrough), where there is one. -/
namespace Go.Proofs.Ytjkncdmbcckcdaa
open Go.RowKit Go.Sort

end Go.Proofs.Ytjkncdmbcckcdaa

/- PolySays: its parts put together; where an argument may not be. -/
namespace Go.Proofs.Ytjkncdmbcckcdaa
open Go.RowKit Go.Sort

end Go.Proofs.Ytjkncdmbcckcdaa

/- Lists that were made and lie in memory that is there: kept while more is made. What two answers with lists are held together by, whatever the error. -/
namespace Go.Proofs.Ytjkncdmbcckcdaa
open Go.RowKit

end Go.Proofs.Ytjkncdmbcckcdaa

/- PolySays: where an argument may not be. -/
namespace Go.Proofs.Ytjkncdmbcckcdaa
open Go.RowKit Go.Sort

end Go.Proofs.Ytjkncdmbcckcdaa
