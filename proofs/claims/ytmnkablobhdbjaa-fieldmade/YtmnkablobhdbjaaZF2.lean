/- The walks of the statements FieldSays and FieldMade. -/
import Derived.Test.YtmnkablobhdbjaaZF1
namespace Go.Proofs.Ytmnkablobhdbjaa
open Go.RowKit

theorem fieldSays_walk (q a b k size : Int) (w : World) (hk1 : -9223372036854775808 ≤ k) (hk2 : k ≤ 9223372036854775807) :
    Calls Try.prog 3 #[.int .i64 q, .int .i64 a, .int .i64 b, .int .i64 k, .int .i64 size] w fun e w' => e = .returned (.bool true) ∧ Below w.heap.size w w' := by
  by_cases h : ∃ D ∈ fieldsL, (D.q : Int) = q
  · obtain ⟨D, hD, rfl⟩ := h
    exact fieldSays_some hD a b k size w hk1 hk2
  · exact fieldSays_none q a b k size w (fun D hD e => h ⟨D, hD, e⟩)

set_option maxHeartbeats 2000000 in
theorem fieldMade_walk (q a b k size : Int) (w : World) (hq1 : -9223372036854775808 ≤ q) (hq2 : q ≤ 9223372036854775807) (ha1 : -9223372036854775808 ≤ a) (ha2 : a ≤ 9223372036854775807)
    (hb1 : -9223372036854775808 ≤ b) (hb2 : b ≤ 9223372036854775807) (hk1 : -9223372036854775808 ≤ k) (hk2 : k ≤ 9223372036854775807) (hs1 : -9223372036854775808 ≤ size) (hs2 : size ≤ 9223372036854775807) :
    Calls Try.prog 4 #[.int .i64 q, .int .i64 a, .int .i64 b, .int .i64 k, .int .i64 size] w fun e w' => e = .returned (.bool true) ∧ Below w.heap.size w w' := by
  go_enter Try.func4, Try.ntmps4
  go_wp2_with fail
  refine (sizes_any w).mono ?_
  rintro e w1 ⟨v, rfl, hown, hb⟩
  obtain ⟨g, cap, rfl, hg, hglt, hcell, _⟩ := hown.at (by simp [sizesL])
  have hlen : sizesL.length = 27 := rfl
  rw [hlen] at hcell ⊢
  have HB : Hid (Below w.heap.size w w1) := hb
  have p1 := pick_lo q 27 (by omega)
  have p2 := pick_hi q 27 (by omega)
  have p3 := pick_lo size 27 (by omega)
  have p4 := pick_hi size 27 (by omega)
  obtain ⟨z, hz⟩ : ∃ z, z = sizesL.getD (pick q 27).toNat 0 := ⟨_, rfl⟩
  obtain ⟨y, hy⟩ : ∃ y, y = sizesL.getD (pick size 27).toNat 0 := ⟨_, rfl⟩
  have c1 : w1.cell? ⟨g, (pick q 27).toNat, none⟩ = some (.int .i64 z) := by rw [hz]; exact hcell _ (by omega)
  have c2 : w1.cell? ⟨g, (pick size 27).toNat, none⟩ = some (.int .i64 y) := by rw [hy]; exact hcell _ (by omega)
  have hz2 : 2 ≤ z ∧ z ≤ 64 := by
    have h := List.all_eq_true.1 (show sizesL.all (fun z => decide (2 ≤ z ∧ z ≤ 64)) = true from by decide +kernel) z (by rw [hz]; exact sizesL_mem _ (by omega))
    exact of_decide_eq_true h
  clear hown hcell hb hz hy hlen
  go_wp2_with fail
  refine (pick_any q 27 _ hq1 hq2 (by omega) (by omega)).mono ?_
  rintro e w' ⟨rfl, hw⟩
  have hw := hw.symm
  subst hw
  go_wp2_with fail
  refine (pick_any a z _ ha1 ha2 (by omega) (by omega)).mono ?_
  rintro e w' ⟨rfl, hw⟩
  have hw := hw.symm
  subst hw
  go_wp2_with fail
  refine (pick_any b z _ hb1 hb2 (by omega) (by omega)).mono ?_
  rintro e w' ⟨rfl, hw⟩
  have hw := hw.symm
  subst hw
  go_wp2_with fail
  refine (pick_any size 27 _ hs1 hs2 (by omega) (by omega)).mono ?_
  rintro e w' ⟨rfl, hw⟩
  have hw := hw.symm
  subst hw
  go_wp2_with fail
  refine (fieldSays_walk z _ _ k y w1 hk1 hk2).mono ?_
  rintro e w2 ⟨rfl, hb⟩
  have HB2 : Hid (Below w.heap.size w w2) := HB.out.trans (hb.mono HB.out.size)
  clear hb
  go_wp2
  go_ret
  exact ⟨rfl, HB2.out⟩
end Go.Proofs.Ytmnkablobhdbjaa
