/- Texts of ours, one behind the other: KA2 KA3 S23 W13 S31 S32 S33 KE1 KE2 KE3 KE4 KE5. -/
import Derived.Test.YtabkomelnhnoiabZX8
import Derived.Test.YtabkomelnhnoiabZU2
import Derived.Deep.CutBlock
import Derived.Deep.DeepCutAuto
import Derived.Test.YtabkomelnhnoiabZW7
import Derived.Test.YtabkomelnhnoiabZT2
import Derived.Shelf.Abstract
import Derived.Test.YtabkomelnhnoiabZL1
/- Weights: Krawtchouk's numbers (the program's krawtchouk). -/
namespace Go.Proofs.Ytabkomelnhnoiab
open Go.RowKit

end Go.Proofs.Ytabkomelnhnoiab

/- Weights: Krawtchouk's numbers (the reference's Kraw). -/
namespace Go.Proofs.Ytabkomelnhnoiab
open Go.RowKit

/-- Whole numbers, below 0 too, in a row of the call's own. -/
def RowZ (g N : Nat) (z : Nat → Int) (w : World) : Prop := ∃ cap f, RowF g cap 3 f w ∧ N ≤ cap ∧ ∀ k, k < N → f k = .int .i64 (z k)
theorem RowZ.of {g N : Nat} {c : Nat → Nat} {w : World} (h : Row g N c w) : RowZ g N (fun k => ((c k : Nat) : Int)) w := by
  obtain ⟨cap, f, h1, h2, h3⟩ := h
  exact ⟨cap, f, h1, h2, h3⟩
theorem RowZ.cell {g N : Nat} {z : Nat → Int} {w : World} (h : RowZ g N z w) (k : Nat) (hk : k < N) : w.cell? ⟨g, k, none⟩ = some (.int .i64 (z k)) := by
  obtain ⟨cap, f, h1, h2, h3⟩ := h
  rw [h1.cell k (by omega), h3 k hk]
theorem RowZ.free {g N : Nat} {z : Nat → Int} {w : World} (h : RowZ g N z w) (k : Nat) : w.frozen? ⟨g, k, none⟩ = false := by
  obtain ⟨cap, f, h1, h2, h3⟩ := h
  exact h1.free k
theorem RowZ.store {g N : Nat} {z y : Nat → Int} {w : World} (h : RowZ g N z w) (k : Nat) (v : Int) (hd : ∀ j, j < N → y j = if j = k then v else z j) : RowZ g N y (w.setCell ⟨g, k, none⟩ (.int .i64 v)) := by
  obtain ⟨cap, f, h1, h2, h3⟩ := h
  refine ⟨cap, _, h1.store k _, h2, fun j hj => ?_⟩
  unfold upd
  rw [hd j hj]
  by_cases e : j = k
  · rw [if_pos e, if_pos e]
  · rw [if_neg e, if_neg e, h3 j hj]
theorem RowZ.congr {g N : Nat} {z y : Nat → Int} {w : World} (h : RowZ g N z w) (e : ∀ k, k < N → z k = y k) : RowZ g N y w := by
  obtain ⟨cap, f, h1, h2, h3⟩ := h
  exact ⟨cap, f, h1, h2, fun k hk => by rw [h3 k hk, e k hk]⟩
theorem RowZ.below {g N B : Nat} {z : Nat → Int} {w w' : World} (h : RowZ g N z w) (hb : Below B w w') (hB : g < B) : RowZ g N z w' := by
  obtain ⟨cap, f, h1, h2, h3⟩ := h
  exact ⟨cap, f, h1.below hb hB, h2, h3⟩
end Go.Proofs.Ytabkomelnhnoiab

/- Plain mathematics: sets that are great and meet little are few (Johnson). No Go text here. -/
namespace Go.Proofs.Ytabkomelnhnoiab

end Go.Proofs.Ytabkomelnhnoiab

/- A region that draws its order and whose late operations, which wait for all that read, write what others read. No Go text here. -/
namespace Go.Proofs.Ytabkomelnhnoiab
open Go

end Go.Proofs.Ytabkomelnhnoiab

/- Plain mathematics of codes of few checks: what a round of peeling fills in, check by check from the first on or from the last on; rounds come to an end. No Go text here. -/
namespace Go.Proofs.Ytabkomelnhnoiab
open Go.RowKit Go.Sort

end Go.Proofs.Ytabkomelnhnoiab

/- Plain mathematics of codes of few checks: which checks may be; which places of a check are lost; sums modulo 2; which bits stand in the most odd checks. No Go text here. -/
namespace Go.Proofs.Ytabkomelnhnoiab
open Go.RowKit Go.Sort

end Go.Proofs.Ytabkomelnhnoiab

/- Plain mathematics of codes of few checks: which bits stand in the most odd checks; rounds of turning. No Go text here. -/
namespace Go.Proofs.Ytabkomelnhnoiab
open Go.RowKit Go.Sort

end Go.Proofs.Ytabkomelnhnoiab

/- Codes of few checks: which checks may be (the program's Check, the reference's ChecksMay). -/
namespace Go.Proofs.Ytabkomelnhnoiab
open Go.RowKit Go.Sort

end Go.Proofs.Ytabkomelnhnoiab

/- Codes of few checks: those places of a check for which something holds (those); the sum of its bits (sum). -/
namespace Go.Proofs.Ytabkomelnhnoiab
open Go.RowKit Go.Sort

end Go.Proofs.Ytabkomelnhnoiab

/- Words of bits (package bit); slices.Equal; slices.Max. -/
namespace Go.Proofs.Ytabkomelnhnoiab
open Go.RowKit Go.Sort

end Go.Proofs.Ytabkomelnhnoiab

/- Codes of few checks: the reference's ChecksMay and Bits. -/
namespace Go.Proofs.Ytabkomelnhnoiab
open Go.RowKit Go.Sort

end Go.Proofs.Ytabkomelnhnoiab

/- Codes of few checks: a round of peeling (the program's fill; printed by make/ke5.py). -/
namespace Go.Proofs.Ytabkomelnhnoiab
open Go.RowKit Go.Sort

theorem RowZ.lt' {g n : Nat} {z : Nat → Int} {w : World} (h : RowZ g n z w) : g < w.heap.size := by
  obtain ⟨cap, f, h1, _⟩ := h
  exact h1.lt
end Go.Proofs.Ytabkomelnhnoiab
