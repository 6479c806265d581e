/- Texts of ours, one behind the other: L1 L2 L3 L4 L5 L6 L7 W8 L8. -/
import Derived.Test.YtjkncdmbcckcdabZV11
import Derived.Test.YtjkncdmbcckcdabZR5
/- What two answers are held together by: numbers, lists, lists of lists. -/
namespace Go.Proofs.Ytjkncdmbcckcdab
open Go.RowKit

theorem OwnP.sliceI {base n : Nat} {v : Value} {c : Nat → Nat} {w : World} (h : OwnP base v n c w) (hn : n ≤ 1000000) : SliceI v (zl n fun j => (c j : Nat)) w := by
  obtain ⟨ao, cap, rfl, _, _, _, _, _, hr⟩ := h
  by_cases h0 : n = 0
  · subst h0
    exact Or.inl ⟨rfl, ao, cap, rfl⟩
  · obtain ⟨g, rfl, hrow⟩ := hr (by omega)
    refine Or.inr ⟨fun e => ?_, by rw [zl_len]; exact hn, g, 0, cap, by rw [zl_len], fun j hj => ?_⟩
    · have := congrArg List.length e
      rw [zl_len] at this
      exact h0 this
    · rw [zl_len] at hj
      rw [Nat.zero_add, zl_getD n _ j hj]; exact hrow.cell j hj
end Go.Proofs.Ytjkncdmbcckcdab

/- PolySays: values (polyAt). -/
namespace Go.Proofs.Ytjkncdmbcckcdab
open Go.RowKit

end Go.Proofs.Ytjkncdmbcckcdab

/- PolySays: roots and parts (polyRoots). -/
namespace Go.Proofs.Ytjkncdmbcckcdab
open Go.RowKit

end Go.Proofs.Ytjkncdmbcckcdab

/- PolySays: roots and parts (polyRoots), the rest. -/
namespace Go.Proofs.Ytjkncdmbcckcdab
open Go.RowKit

end Go.Proofs.Ytjkncdmbcckcdab

/- PolySays: a polynomial through points (polyThrough). -/
namespace Go.Proofs.Ytjkncdmbcckcdab
open Go.RowKit Go.Sort

theorem has_of_lt {D : FD} {x : Nat} (h : x < D.q) : D.has (x : Int) = true := by
  unfold FD.has; simp; omega

theorem zl_mem {n : Nat} {z : Nat → Int} {x : Int} : x ∈ zl n z ↔ ∃ j, j < n ∧ z j = x := by
  unfold zl
  rw [List.mem_map]
  constructor
  · rintro ⟨j, hj, e⟩
    exact ⟨j, List.mem_range.1 hj, e⟩
  · rintro ⟨j, hj, e⟩
    exact ⟨j, List.mem_range.2 hj, e⟩
end Go.Proofs.Ytjkncdmbcckcdab

/- PolySays: a polynomial through points (polyThrough), where there is one. -/
namespace Go.Proofs.Ytjkncdmbcckcdab
open Go.RowKit Go.Sort

end Go.Proofs.Ytjkncdmbcckcdab

/- PolySays: its parts put together; where an argument may not be. -/
namespace Go.Proofs.Ytjkncdmbcckcdab
open Go.RowKit Go.Sort

end Go.Proofs.Ytjkncdmbcckcdab

/- Lists that were made and lie in memory that is there: kept while more is made. What two answers with lists are held together by, whatever the error. -/
namespace Go.Proofs.Ytjkncdmbcckcdab
open Go.RowKit

end Go.Proofs.Ytjkncdmbcckcdab

/- PolySays: where an argument may not be. -/
namespace Go.Proofs.Ytjkncdmbcckcdab
open Go.RowKit Go.Sort

end Go.Proofs.Ytjkncdmbcckcdab
