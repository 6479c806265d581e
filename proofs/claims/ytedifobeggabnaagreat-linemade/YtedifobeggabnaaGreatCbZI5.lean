/- Texts of ours, one behind the other: ZI5. -/
import Derived.Test.YtedifobeggabnaaGreatCbZG2
import Derived.Test.YtedifobeggabnaaGreatChecked
namespace Go.Proofs.YtedifobeggabnaaGreat
open Tryz
def Sd:List Nat:=[8,13,14,15,16,17,18,22,23,24,26,31,42,44,45,46,47,48,54,64,65,66,67,91,92,93,94,95,112,113,114,115,116,127]
theorem Ro:(Sd.all λa=>RU prog (mB Sd) a)=true:=by kernel_rfl
theorem T1:uG prog (Uq Sd):=E6 Sd λa b=>(aM.1 Ro) a b
