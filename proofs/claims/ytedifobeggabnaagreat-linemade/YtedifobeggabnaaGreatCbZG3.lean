/- Texts of ours, one behind the other: ZG3. -/
import Derived.Test.YtedifobeggabnaaGreatCbZG2
import Derived.Test.YtedifobeggabnaaGreatChecked
namespace Go.Proofs.YtedifobeggabnaaGreat
open Tryz
def To:List Nat:=[22,29,44,45,46,47,48,56,64,65,66,67,87,88,91,92,93,94,95,101,102,103,104,105,106,107,108,109,110,111,112,113,114,115,116,117,118,119,120,121,122,123,124,125,126,127,128,129,130,131,132,133]
theorem Qi:(To.all λa=>RU prog (mB To) a)=true:=by kernel_rfl
theorem Tp:uG prog (Uq To):=E6 To λa b=>(aM.1 Qi) a b
