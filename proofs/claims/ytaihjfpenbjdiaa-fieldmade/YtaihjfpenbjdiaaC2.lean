/- A field of raw size, as the statements make it (fieldOf). -/
import Derived.Test.YtaihjfpenbjdiaaB3
import Derived.Test.YtaihjfpenbjdiaaC1
namespace Go.Proofs.Ytaihjfpenbjdiaa
open Go.RowKit

theorem sizes_fields : sizesL.all (fun z => fieldsL.any fun D => (D.q : Int) == z) = true := by decide +kernel
theorem sizesL_mem (k : Nat) (h : k < 27) : sizesL.getD k 0 ∈ sizesL := by
  rw [List.getD_eq_getElem?_getD, List.getElem?_eq_getElem (show k < sizesL.length from h)]
  exact List.getElem_mem _
theorem sizeOf_mem (c : Int) : sizeOf' c ∈ sizesL := by
  unfold sizeOf'
  have h3 := pick_lo (c.tdiv 100) 27 (by omega)
  have h4 := pick_hi (c.tdiv 100) 27 (by omega)
  split
  · exact sizesL_mem _ (by omega)
  · exact sizesL_mem _ (by omega)
theorem sizeOf_field (c : Int) : ∃ D ∈ fieldsL, sizeOf' c = (D.q : Int) := by
  have := List.all_eq_true.1 sizes_fields _ (sizeOf_mem c)
  obtain ⟨D, hD, e⟩ := List.any_eq_true.1 this
  exact ⟨D, hD, (beq_iff_eq.1 e).symm⟩

theorem FAt.ltT {F T : Nat} {D : FD} {g : Nat → Value} {w : World} (h : FAt F T D g w) : T < w.heap.size := h.row.lt

end Go.Proofs.Ytaihjfpenbjdiaa
