/- Texts of ours, one behind the other: L1 L2 L3 L4 L5 L6 L7 W8 L8. -/
import Derived.Test.YtdfneklnpghhmaaGreatDoorZV11
import Derived.Test.YtdfneklnpghhmaaGreatDoorZR9
/- What two answers are held together by: numbers, lists, lists of lists. -/
namespace Go.Proofs.YtdfneklnpghhmaaGreatDoor
open Go.RowKit

set_option maxHeartbeats 2000000 in
theorem lists_err2 (e : Int) (he : e ≠ 0) (ao : Option Addr) (ca : Nat) (vb : Value) (w : World) :
    Calls Tryz.prog 9 #[.slice ao 0 ca, .int .i64 e, vb, .int .i64 e] w fun r w' => r = .returned (.bool true) ∧ w' = w := by
  have h1 : (e != 0) = true := bne_iff_ne.2 he
  go_enter Tryz.func9, Tryz.ntmps9
  go_wp2
  go_ret
  exact ⟨rfl, rfl⟩
/-- The reference's field, with its modulus where it lies. -/
theorem rfield_sl {D : FD} (hD : D ∈ fieldsL) (w : World) :
    Calls Tryz.prog 34 #[.int .i64 D.q] w fun e w' => ∃ gm cm, e = .returned (.tuple #[rf D.q D.p D.m D.gen (.slice (some ⟨gm, 0, none⟩) (D.m + 1) cm), .int .i64 0]) ∧ ModAt D (.slice (some ⟨gm, 0, none⟩) (D.m + 1) cm) D.md w' ∧ Below w.heap.size w w' := by
  refine (rfield_any hD w).mono ?_
  rintro e w' ⟨v, rfl, hown, hmod, hb⟩
  obtain ⟨gm, cm, fm, rfl, _⟩ := hown.row (D.m + 1) modL_len' (by have := (fld hD).m6; omega)
  exact ⟨gm, cm, rfl, hmod, hb⟩
end Go.Proofs.YtdfneklnpghhmaaGreatDoor

/- PolySays: values (polyAt). -/
namespace Go.Proofs.YtdfneklnpghhmaaGreatDoor
open Go.RowKit

end Go.Proofs.YtdfneklnpghhmaaGreatDoor

/- PolySays: roots and parts (polyRoots). -/
namespace Go.Proofs.YtdfneklnpghhmaaGreatDoor
open Go.RowKit

end Go.Proofs.YtdfneklnpghhmaaGreatDoor

/- PolySays: roots and parts (polyRoots), the rest. -/
namespace Go.Proofs.YtdfneklnpghhmaaGreatDoor
open Go.RowKit

end Go.Proofs.YtdfneklnpghhmaaGreatDoor

/- PolySays: a polynomial through points (polyThrough). -/
namespace Go.Proofs.YtdfneklnpghhmaaGreatDoor
open Go.RowKit Go.Sort

end Go.Proofs.YtdfneklnpghhmaaGreatDoor

/- PolySays: a polynomial through points (polyThrough), where there is one. -/
namespace Go.Proofs.YtdfneklnpghhmaaGreatDoor
open Go.RowKit Go.Sort

end Go.Proofs.YtdfneklnpghhmaaGreatDoor

/- PolySays: its parts put together; where an argument may not be. -/
namespace Go.Proofs.YtdfneklnpghhmaaGreatDoor
open Go.RowKit Go.Sort

end Go.Proofs.YtdfneklnpghhmaaGreatDoor

/- Lists that were made and lie in memory that is there: kept while more is made. What two answers with lists are held together by, whatever the error. -/
namespace Go.Proofs.YtdfneklnpghhmaaGreatDoor
open Go.RowKit

end Go.Proofs.YtdfneklnpghhmaaGreatDoor

/- PolySays: where an argument may not be. -/
namespace Go.Proofs.YtdfneklnpghhmaaGreatDoor
open Go.RowKit Go.Sort

end Go.Proofs.YtdfneklnpghhmaaGreatDoor
