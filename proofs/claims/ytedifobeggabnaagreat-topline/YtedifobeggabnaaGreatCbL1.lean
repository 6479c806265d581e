/- Texts of ours, one behind the other: L1 L2 L3 L4 L5 L6 L7 W8 L8. -/
import Derived.Test.YtedifobeggabnaaGreatCbV11
import Derived.Test.YtedifobeggabnaaGreatCbR5
namespace Go.Proofs.YtedifobeggabnaaGreat
section
open Go.RowKit
end
section
open Go.RowKit Go.Sort
theorem has_of_lt {D:FD}{x:Nat}(h:x<D.q):D.has (x:Int)=true:=by
 unfold FD.has;simp;omega
theorem zl_mem {n:Nat}{z:Nat→Int}{x:Int}:x∈zl n z↔∃j,j<n∧z j=x:=by
 unfold zl
 rw[List.mem_map]
 constructor
 ·rintro⟨j,hj,e⟩
  exact⟨j,List.mem_range.1 hj,e⟩
 ·rintro⟨j,hj,e⟩
  exact⟨j,List.mem_range.2 hj,e⟩
end
section
open Go.RowKit
end
section
open Go.RowKit Go.Sort
end
end Go.Proofs.YtedifobeggabnaaGreat
