/- Texts of ours, one behind the other: L1 L2 L3 L4 L5 L6 L7 W8 L8. -/
import Derived.Test.YtbpeahhhkcljeaaZV11
import Derived.Test.YtbpeahhhkcljeaaZR5
/- What two answers are held together by: numbers, lists, lists of lists. -/
namespace Go.Proofs.Ytbpeahhhkcljeaa
open Go.RowKit

end Go.Proofs.Ytbpeahhhkcljeaa

/- PolySays: values (polyAt). -/
namespace Go.Proofs.Ytbpeahhhkcljeaa
open Go.RowKit

end Go.Proofs.Ytbpeahhhkcljeaa

/- PolySays: roots and parts (polyRoots). -/
namespace Go.Proofs.Ytbpeahhhkcljeaa
open Go.RowKit

end Go.Proofs.Ytbpeahhhkcljeaa

/- PolySays: roots and parts (polyRoots), the rest. -/
namespace Go.Proofs.Ytbpeahhhkcljeaa
open Go.RowKit

end Go.Proofs.Ytbpeahhhkcljeaa

/- PolySays: a polynomial through points (polyThrough). -/
namespace Go.Proofs.Ytbpeahhhkcljeaa
open Go.RowKit Go.Sort

theorem zl_mem {n : Nat} {z : Nat → Int} {x : Int} : x ∈ zl n z ↔ ∃ j, j < n ∧ z j = x := by
  unfold zl
  rw [List.mem_map]
  constructor
  · rintro ⟨j, hj, e⟩
    exact ⟨j, List.mem_range.1 hj, e⟩
  · rintro ⟨j, hj, e⟩
    exact ⟨j, List.mem_range.2 hj, e⟩
end Go.Proofs.Ytbpeahhhkcljeaa

/- PolySays: a polynomial through points (polyThrough), where there is one. -/
namespace Go.Proofs.Ytbpeahhhkcljeaa
open Go.RowKit Go.Sort

end Go.Proofs.Ytbpeahhhkcljeaa

/- PolySays: its parts put together; where an argument may not be. -/
namespace Go.Proofs.Ytbpeahhhkcljeaa
open Go.RowKit Go.Sort

end Go.Proofs.Ytbpeahhhkcljeaa

/- Lists that were made and lie in memory that is there: kept while more is made. What two answers with lists are held together by, whatever the error. -/
namespace Go.Proofs.Ytbpeahhhkcljeaa
open Go.RowKit

/-- The list v reads as l, in memory that is there. -/
def KI (v : Value) (l : List Int) (w : World) : Prop := SliceI v l w ∧ ∀ k, v.ownBlock = some k → k < w.heap.size
theorem KI.below {v : Value} {l : List Int} {w w' : World} (h : KI v l w) (hb : Below w.heap.size w w') : KI v l w' := ⟨h.1.below hb h.2, fun k hk => Nat.lt_of_lt_of_le (h.2 k hk) hb.size⟩
theorem KI.drewN {v : Value} {l : List Int} {w : World} (h : KI v l w) (n : Nat) : KI v l (w.drewN n) := ⟨h.1.drewN n, h.2⟩
theorem OwnI.ki {base : Nat} {v : Value} {l : List Int} {w : World} (h : OwnI base v l w) (hl : l.length ≤ 1000000) : KI v l w := ⟨h.slice hl, fun k hk => (h.lt k hk).2⟩
end Go.Proofs.Ytbpeahhhkcljeaa

/- PolySays: where an argument may not be. -/
namespace Go.Proofs.Ytbpeahhhkcljeaa
open Go.RowKit Go.Sort

end Go.Proofs.Ytbpeahhhkcljeaa
