/- The reference: what each element of a field becomes in a greater one (Embed). -/
import Derived.Test.YtaihjfpenbjdiaiM7
import Derived.Test.YtaihjfpenbjdiaiR13
import Derived.Deep.RegionHeld3
namespace Go.Proofs.Ytaihjfpenbjdiai
open Go.RowKit

theorem modL_len' {D : FD} : D.modL.length = D.m + 1 := by unfold FD.modL; rw [List.length_append, digL_len]; rfl

end Go.Proofs.Ytaihjfpenbjdiai
