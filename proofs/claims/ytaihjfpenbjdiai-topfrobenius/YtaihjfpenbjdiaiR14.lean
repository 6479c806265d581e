/- The reference: the elements of a smaller field within one (Within). -/
import Derived.Test.YtaihjfpenbjdiaiR13
namespace Go.Proofs.Ytaihjfpenbjdiai
open Go.RowKit

/-- Of the first k elements those that stay under Frobenius, so many times. -/
def FD.stayTo (D : FD) (m k : Nat) : List Int := ((List.range k).filter fun a => again D.frob1 (m % D.m) a == a).map Int.ofNat
theorem stayTo_yes {D : FD} {m k : Nat} (h : again D.frob1 (m % D.m) k = k) : D.stayTo m (k + 1) = D.stayTo m k ++ [(k : Int)] := by
  unfold FD.stayTo; rw [List.range_succ, List.filter_append, List.map_append]; simp [h]
theorem stayTo_no {D : FD} {m k : Nat} (h : ¬ again D.frob1 (m % D.m) k = k) : D.stayTo m (k + 1) = D.stayTo m k := by
  unfold FD.stayTo; rw [List.range_succ, List.filter_append, List.map_append]; simp [h]
theorem stayTo_len (D : FD) (m k : Nat) : (D.stayTo m k).length ≤ k := by
  unfold FD.stayTo; rw [List.length_map]; exact Nat.le_trans (List.length_filter_le _ _) (by simp)

/-- The elements of the field of so many within this one. -/
def FD.withinL (D : FD) (size : Int) : List Int := if 2 ≤ size ∧ size ≤ 64 ∧ (pp size.toNat).1 = D.p ∧ (pp size.toNat).2 ≠ 0 ∧ D.m % (pp size.toNat).2 = 0 then D.stayTo (pp size.toNat).2 D.q else []

theorem pp_bd : (allB 65 fun q => decide ((pp q).2 ≤ 6) || decide (q < 2)) = true := by decide +kernel

end Go.Proofs.Ytaihjfpenbjdiai
