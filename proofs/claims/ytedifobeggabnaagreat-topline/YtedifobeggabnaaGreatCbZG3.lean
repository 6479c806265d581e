/- Texts of ours, one behind the other: ZG3. -/
import Derived.Test.YtedifobeggabnaaGreatCbZG2
import Derived.Test.YtedifobeggabnaaGreatChecked
namespace Go.Proofs.YtedifobeggabnaaGreat
def mdL:List Nat:=[22,29,44,45,46,47,48,56,64,65,66,67,87,88,91,92,93,94,95,101,102,103,104,105,106,107,108,109,110,111,112,113,114,115,116,117,118,119,120,121,122,123,124,125,126,127,128,129,130,131,132,133]
theorem md_each:(mdL.all fun g=>fnB Tryz.prog (memB mdL) g)=true:=by kernel_rfl
theorem md_fns:Fns Tryz.prog (fxL mdL):=fns_ok mdL fun g hg=>(List.all_eq_true.1 md_each) g hg
end Go.Proofs.YtedifobeggabnaaGreat
