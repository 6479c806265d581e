/- Texts of ours, one behind the other: L1 L2 L3 L4 L5 L6 L7 W8 L8. -/
import Derived.Test.YtillljojdnofgaaZV11
import Derived.Test.YtillljojdnofgaaZB5
import Derived.Test.YtillljojdnofgaaZR5
/- What two answers are held together by: numbers, lists, lists of lists. -/
namespace Go.Proofs.Ytillljojdnofgaa
open Go.RowKit

theorem OwnP.sliceI {base n : Nat} {v : Value} {c : Nat → Nat} {w : World} (h : OwnP base v n c w) (hn : n ≤ 1000000) : SliceI v (zl n fun j => (c j : Nat)) w := by
  obtain ⟨ao, cap, rfl, _, _, _, _, _, hr⟩ := h
  by_cases h0 : n = 0
  · subst h0
    exact Or.inl ⟨rfl, ao, cap, rfl⟩
  · obtain ⟨g, rfl, hrow⟩ := hr (by omega)
    refine Or.inr ⟨fun e => ?_, by rw [zl_len]; exact hn, g, 0, cap, by rw [zl_len], fun j hj => ?_⟩
    · have := congrArg List.length e
      rw [zl_len] at this
      exact h0 this
    · rw [zl_len] at hj
      rw [Nat.zero_add, zl_getD n _ j hj]; exact hrow.cell j hj
theorem Elm.sliceI {v : Value} {p : Nat × (Nat → Nat)} {w : World} (h : Elm v p w) (hn : p.1 + 1 ≤ 1000000) : SliceI v (zl (p.1 + 1) fun j => (p.2 j : Nat)) w := by
  obtain ⟨g, cap, rfl, h1, h2, hr⟩ := h
  exact (OwnP.of_row (base := 0) hr (Nat.le_refl _) h1 h2 (Nat.zero_le _)).sliceI hn

end Go.Proofs.Ytillljojdnofgaa

/- PolySays: values (polyAt). -/
namespace Go.Proofs.Ytillljojdnofgaa
open Go.RowKit

end Go.Proofs.Ytillljojdnofgaa

/- PolySays: roots and parts (polyRoots). -/
namespace Go.Proofs.Ytillljojdnofgaa
open Go.RowKit

end Go.Proofs.Ytillljojdnofgaa

/- PolySays: roots and parts (polyRoots), the rest. -/
namespace Go.Proofs.Ytillljojdnofgaa
open Go.RowKit

end Go.Proofs.Ytillljojdnofgaa

/- PolySays: a polynomial through points (polyThrough). -/
namespace Go.Proofs.Ytillljojdnofgaa
open Go.RowKit Go.Sort

end Go.Proofs.Ytillljojdnofgaa

/- PolySays: a polynomial through points (polyThrough), where there is one. -/
namespace Go.Proofs.Ytillljojdnofgaa
open Go.RowKit Go.Sort

end Go.Proofs.Ytillljojdnofgaa

/- PolySays: its parts put together; where an argument may not be. -/
namespace Go.Proofs.Ytillljojdnofgaa
open Go.RowKit Go.Sort

end Go.Proofs.Ytillljojdnofgaa

/- Lists that were made and lie in memory that is there: kept while more is made. What two answers with lists are held together by, whatever the error. -/
namespace Go.Proofs.Ytillljojdnofgaa
open Go.RowKit

end Go.Proofs.Ytillljojdnofgaa

/- PolySays: where an argument may not be. -/
namespace Go.Proofs.Ytillljojdnofgaa
open Go.RowKit Go.Sort

end Go.Proofs.Ytillljojdnofgaa
