/- The walks of the statements FieldSays and FieldMade. -/
import Derived.Test.YtmnkablobhdbjaaZF1
namespace Go.Proofs.Ytmnkablobhdbjaa
open Go.RowKit

theorem fieldSays_walk (q a b k size : Int) (w : World) (hk1 : -9223372036854775808 ≤ k) (hk2 : k ≤ 9223372036854775807) :
    Calls Try.prog 3 #[.int .i64 q, .int .i64 a, .int .i64 b, .int .i64 k, .int .i64 size] w fun e w' => e = .returned (.bool true) ∧ Below w.heap.size w w' := by
  by_cases h : ∃ D ∈ fieldsL, (D.q : Int) = q
  · obtain ⟨D, hD, rfl⟩ := h
    exact fieldSays_some hD a b k size w hk1 hk2
  · exact fieldSays_none q a b k size w (fun D hD e => h ⟨D, hD, e⟩)

end Go.Proofs.Ytmnkablobhdbjaa
