/- Texts of ours, one behind the other: ZI5. -/
import Derived.Test.YtedifobeggabnaaGreatCbZG2
import Derived.Test.YtedifobeggabnaaGreatChecked
namespace Go.Proofs.YtedifobeggabnaaGreat
def tpL:List Nat:=[8,13,14,15,16,17,18,22,23,24,26,31,42,44,45,46,47,48,54,64,65,66,67,91,92,93,94,95,112,113,114,115,116,127]
theorem tp_each:(tpL.all fun g=>fnB Tryz.prog (memB tpL) g)=true:=by kernel_rfl
theorem tp_fns:Fns Tryz.prog (fxL tpL):=fns_ok tpL fun g hg=>(List.all_eq_true.1 tp_each) g hg
end Go.Proofs.YtedifobeggabnaaGreat
