/- Texts of ours, one behind the other: R4. -/
import Derived.Test.YtedifobeggabnaaGreatCbM3
import Derived.Test.YtedifobeggabnaaGreatCbM5
import Derived.StillTailTactics
namespace Go.Proofs.YtedifobeggabnaaGreat
open Go.RowKit
theorem below_drewN2 {B:Nat}{w w':World}(h:Below B w w')(n:Nat):Below B w (w'.drewN n):=⟨h.os,h.tape,h.output,h.size,h.block⟩
theorem wrap_to {a:Int}{n:Nat}(h:a=(n:Int))(hn:n≤9223372036854775807):IntKind.i64.wrap a=(n:Int):=by
 rw[IntWalk.i64_left,h];exact w_nat n hn
end Go.Proofs.YtedifobeggabnaaGreat
