/- Texts of ours, one behind the other: ZK1. -/
import Derived.Test.YtedifobeggabnaaGreatCbZJ1
import Derived.Test.YtedifobeggabnaaGreatCbZK0
namespace Go.Proofs.YtedifobeggabnaaGreat
open Go.RowKit Go.Sort
section
variable {D:FD}{n k N L i:Nat}{e:Nat->Nat}{a:Nat->Nat->Nat}{b c:Nat->Nat}{d:Nat->Int}{f:Nat->Nat->Int}
