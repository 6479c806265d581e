/- Texts of ours, one behind the other: L1 L2 L3 L4 L5 L6 L7 W8 L8. -/
import Derived.Test.YtjkncdmbcckcdaaZV11
import Derived.Test.YtjkncdmbcckcdaaZR18
/- What two answers are held together by: numbers, lists, lists of lists. -/
namespace Go.Proofs.Ytjkncdmbcckcdaa
open Go.RowKit

set_option maxHeartbeats 2000000 in
theorem list_err2 (e : Int) (he : e ≠ 0) (ao : Option Addr) (ca : Nat) (vb : Value) (w : World) :
    Calls Try.prog 23 #[.slice ao 0 ca, .int .i64 e, vb, .int .i64 e] w fun r w' => r = .returned (.bool true) ∧ w' = w := by
  have h1 : (e != 0) = true := bne_iff_ne.2 he
  go_enter Try.func23, Try.ntmps23
  go_wp2
  go_ret
  exact ⟨rfl, rfl⟩
end Go.Proofs.Ytjkncdmbcckcdaa

/- PolySays: values (polyAt). -/
namespace Go.Proofs.Ytjkncdmbcckcdaa
open Go.RowKit

end Go.Proofs.Ytjkncdmbcckcdaa

/- PolySays: roots and parts (polyRoots). -/
namespace Go.Proofs.Ytjkncdmbcckcdaa
open Go.RowKit

end Go.Proofs.Ytjkncdmbcckcdaa

/- PolySays: roots and parts (polyRoots), the rest. -/
namespace Go.Proofs.Ytjkncdmbcckcdaa
open Go.RowKit

end Go.Proofs.Ytjkncdmbcckcdaa

/- PolySays: a polynomial through points (polyThrough). -/
namespace Go.Proofs.Ytjkncdmbcckcdaa
open Go.RowKit Go.Sort

end Go.Proofs.Ytjkncdmbcckcdaa

/- PolySays: a polynomial through points (polyThrough), where there is one. -/
namespace Go.Proofs.Ytjkncdmbcckcdaa
open Go.RowKit Go.Sort

end Go.Proofs.Ytjkncdmbcckcdaa

/- PolySays: its parts put together; where an argument may not be. -/
namespace Go.Proofs.Ytjkncdmbcckcdaa
open Go.RowKit Go.Sort

end Go.Proofs.Ytjkncdmbcckcdaa

/- Lists that were made and lie in memory that is there: kept while more is made. What two answers with lists are held together by, whatever the error. -/
namespace Go.Proofs.Ytjkncdmbcckcdaa
open Go.RowKit

/-- The list v reads as l, in memory that is there. -/
def KI (v : Value) (l : List Int) (w : World) : Prop := SliceI v l w ∧ ∀ k, v.ownBlock = some k → k < w.heap.size
theorem KI.below {v : Value} {l : List Int} {w w' : World} (h : KI v l w) (hb : Below w.heap.size w w') : KI v l w' := ⟨h.1.below hb h.2, fun k hk => Nat.lt_of_lt_of_le (h.2 k hk) hb.size⟩
theorem KI.drewN {v : Value} {l : List Int} {w : World} (h : KI v l w) (n : Nat) : KI v l (w.drewN n) := ⟨h.1.drewN n, h.2⟩
theorem OwnI.ki {base : Nat} {v : Value} {l : List Int} {w : World} (h : OwnI base v l w) (hl : l.length ≤ 1000000) : KI v l w := ⟨h.slice hl, fun k hk => (h.lt k hk).2⟩
theorem list_gen {va vb : Value} {e : Int} {w : World} (h : (e ≠ 0 ∧ ∃ ao ca, va = .slice ao 0 ca) ∨ (e = 0 ∧ ∃ l, SliceI va l w ∧ SliceI vb l w)) :
    Calls Try.prog 23 #[va, .int .i64 e, vb, .int .i64 e] w fun r w' => r = .returned (.bool true) ∧ ∃ n, w' = w.drewN n := by
  rcases h with ⟨he, ao, ca, rfl⟩ | ⟨rfl, l, h1, h2⟩
  · refine (list_err2 e he ao ca vb w).mono ?_
    rintro r w' ⟨rfl, rfl⟩
    exact ⟨rfl, 0, rfl⟩
  · exact list_same h1 h2
end Go.Proofs.Ytjkncdmbcckcdaa

/- PolySays: where an argument may not be. -/
namespace Go.Proofs.Ytjkncdmbcckcdaa
open Go.RowKit Go.Sort

end Go.Proofs.Ytjkncdmbcckcdaa
