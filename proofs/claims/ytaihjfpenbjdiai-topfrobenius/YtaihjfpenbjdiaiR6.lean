/- The reference: are the powers of an element all but 0 (full)? -/
import Derived.Test.YtaihjfpenbjdiaiR5
import Derived.Test.YtaihjfpenbjdiaiA5
namespace Go.Proofs.Ytaihjfpenbjdiai
open Go.RowKit

theorem Try.infoBool : (Try.prog.info? 4).map (fun i => (i.zero, i.size, i.bytes)) = some (some (.bool false), 1, 1) := by kernel_rfl

/-- Has a number been met among the first k powers? -/
def seenB (st : Nat → Nat) (k x : Nat) : Bool := (List.range k).any fun i => again st i 1 == x
theorem seenB_true {st : Nat → Nat} {k x : Nat} : seenB st k x = true ↔ ∃ i, i < k ∧ again st i 1 = x := by
  unfold seenB
  rw [List.any_eq_true]
  constructor
  · rintro ⟨i, hi, h⟩; exact ⟨i, List.mem_range.1 hi, beq_iff_eq.1 h⟩
  · rintro ⟨i, hi, h⟩; exact ⟨i, List.mem_range.2 hi, beq_iff_eq.2 h⟩
theorem seenB_succ (st : Nat → Nat) (k x : Nat) : seenB st (k + 1) x = (seenB st k x || again st k 1 == x) := by
  unfold seenB; rw [List.range_succ, List.any_append]; simp

end Go.Proofs.Ytaihjfpenbjdiai
