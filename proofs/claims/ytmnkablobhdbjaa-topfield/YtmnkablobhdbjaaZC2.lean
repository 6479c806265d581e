/- A field of raw size, as the statements make it (fieldOf). -/
import Derived.Test.YtmnkablobhdbjaaZB3
import Derived.Test.YtmnkablobhdbjaaZC1
namespace Go.Proofs.Ytmnkablobhdbjaa
open Go.RowKit

theorem sizes_fields : sizesL.all (fun z => fieldsL.any fun D => (D.q : Int) == z) = true := by decide +kernel
theorem sizesL_mem (k : Nat) (h : k < 27) : sizesL.getD k 0 ∈ sizesL := by
  rw [List.getD_eq_getElem?_getD, List.getElem?_eq_getElem (show k < sizesL.length from h)]
  exact List.getElem_mem _
theorem sizeOf_mem (c : Int) : sizeOf' c ∈ sizesL := by
  unfold sizeOf'
  have h3 := pick_lo (c.tdiv 100) 27 (by omega)
  have h4 := pick_hi (c.tdiv 100) 27 (by omega)
  split
  · exact sizesL_mem _ (by omega)
  · exact sizesL_mem _ (by omega)
theorem sizeOf_field (c : Int) : ∃ D ∈ fieldsL, sizeOf' c = (D.q : Int) := by
  have := List.all_eq_true.1 sizes_fields _ (sizeOf_mem c)
  obtain ⟨D, hD, e⟩ := List.any_eq_true.1 this
  exact ⟨D, hD, (beq_iff_eq.1 e).symm⟩

theorem FAt.ltT {F T : Nat} {D : FD} {g : Nat → Value} {w : World} (h : FAt F T D g w) : T < w.heap.size := h.row.lt

set_option maxHeartbeats 2000000 in
theorem fieldOf_any (c : Int) (w : World) (hc1 : -9223372036854775808 ≤ c) (hc2 : c ≤ 9223372036854775807) :
    Calls Try.prog 63 #[.int .i64 c] w fun e w' => ∃ D F T g, D ∈ fieldsL ∧ sizeOf' c = (D.q : Int) ∧ e = .returned (.pointer (some ⟨F, 0, none⟩)) ∧ FAt F T D g w' ∧ w.heap.size ≤ F ∧ w.heap.size ≤ T ∧ Below w.heap.size w w' := by
  obtain ⟨D, hD, hs⟩ := sizeOf_field c
  have hq2 := (fld hD).q2
  have hq64 := (fld hD).q64
  have hp2 := (fld hD).p2
  have HS : Hid (∀ w1 : World, Calls Try.prog 60 #[.int .i64 c] w1 fun e w' => e = .returned (.int .i64 (D.q : Int)) ∧ Below w1.heap.size w1 w') := by
    intro w1; rw [← hs]; exact sizeOf_any c w1 hc1 hc2
  have HD : Hid (D ∈ fieldsL ∧ sizeOf' c = (D.q : Int)) := ⟨hD, hs⟩
  clear hD hs
  go_enter Try.func63, Try.ntmps63
  go_wp2_with fail
  refine (HS.out _).mono ?_
  rintro e w1 ⟨rfl, hb1⟩
  go_wp2_with fail
  refine (new_any HD.out.1 w1).mono ?_
  rintro e w2 ⟨F, T, g, rfl, hat, hF, hT, hb2⟩
  have HA : Hid (FAt F T D g w2) := hat
  have HB : Hid (Below w.heap.size w w2 ∧ w.heap.size ≤ F ∧ w.heap.size ≤ T ∧ w.heap.size ≤ w2.heap.size) := ⟨hb1.trans (hb2.mono hb1.size), Nat.le_trans hb1.size hF, Nat.le_trans hb1.size hT, Nat.le_trans hb1.size hb2.size⟩
  clear hat hF hT hb1 hb2
  go_wp2_with fail
  refine (size_any HA.out).mono ?_
  rintro e w' ⟨rfl, rfl⟩
  go_wp2_with fail
  refine (HS.out _).mono ?_
  rintro e w3 ⟨rfl, hb3⟩
  have HA3 : Hid (FAt F T D g w3) := HA.out.below hb3 HA.out.ltF HA.out.ltT
  have HB3 : Hid (Below w.heap.size w w3) := HB.out.1.trans (hb3.mono HB.out.2.2.2)
  clear hb3
  go_wp2_with fail
  refine (char_any HA3.out).mono ?_
  rintro e w' ⟨rfl, rfl⟩
  go_wp2
  go_ret
  exact ⟨D, F, T, g, HD.out.1, HD.out.2, rfl, HA3.out, HB.out.2.1, HB.out.2.2.1, HB3.out⟩
end Go.Proofs.Ytmnkablobhdbjaa
