/- Texts of ours, one behind the other: L1 L2 L3 L4 L5 L6 L7 W8 L8. -/
import Derived.Test.YtppggchhkckobaaGreatZV11
import Derived.Test.YtppggchhkckobaaGreatZM9
import Derived.Test.YtppggchhkckobaaGreatZR5
/- What two answers are held together by: numbers, lists, lists of lists. -/
namespace Go.Proofs.YtppggchhkckobaaGreat
open Go.RowKit

end Go.Proofs.YtppggchhkckobaaGreat

/- PolySays: values (polyAt). -/
namespace Go.Proofs.YtppggchhkckobaaGreat
open Go.RowKit

end Go.Proofs.YtppggchhkckobaaGreat

/- PolySays: roots and parts (polyRoots). -/
namespace Go.Proofs.YtppggchhkckobaaGreat
open Go.RowKit

end Go.Proofs.YtppggchhkckobaaGreat

/- PolySays: roots and parts (polyRoots), the rest. -/
namespace Go.Proofs.YtppggchhkckobaaGreat
open Go.RowKit

end Go.Proofs.YtppggchhkckobaaGreat

/- PolySays: a polynomial through points (polyThrough). -/
namespace Go.Proofs.YtppggchhkckobaaGreat
open Go.RowKit Go.Sort

theorem has_of_lt {D : FD} {x : Nat} (h : x < D.q) : D.has (x : Int) = true := by
  unfold FD.has; simp; omega

theorem zl_mem {n : Nat} {z : Nat → Int} {x : Int} : x ∈ zl n z ↔ ∃ j, j < n ∧ z j = x := by
  unfold zl
  rw [List.mem_map]
  constructor
  · rintro ⟨j, hj, e⟩
    exact ⟨j, List.mem_range.1 hj, e⟩
  · rintro ⟨j, hj, e⟩
    exact ⟨j, List.mem_range.2 hj, e⟩
end Go.Proofs.YtppggchhkckobaaGreat

/- PolySays: a polynomial through points (polyThrough), where there is one. -/
namespace Go.Proofs.YtppggchhkckobaaGreat
open Go.RowKit Go.Sort

end Go.Proofs.YtppggchhkckobaaGreat

/- PolySays: its parts put together; where an argument may not be. -/
namespace Go.Proofs.YtppggchhkckobaaGreat
open Go.RowKit Go.Sort

end Go.Proofs.YtppggchhkckobaaGreat

/- Lists that were made and lie in memory that is there: kept while more is made. What two answers with lists are held together by, whatever the error. -/
namespace Go.Proofs.YtppggchhkckobaaGreat
open Go.RowKit

end Go.Proofs.YtppggchhkckobaaGreat

/- PolySays: where an argument may not be. -/
namespace Go.Proofs.YtppggchhkckobaaGreat
open Go.RowKit Go.Sort

end Go.Proofs.YtppggchhkckobaaGreat
