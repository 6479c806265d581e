/- The sizes of fields, as the reference lists them (Sizes, SizeOf). -/
import Derived.Test.YtcgmllamiaflcaaZA1
import Derived.Test.YtcgmllamiaflcaaZW2
namespace Go.Proofs.Ytcgmllamiaflcaa
open Go.RowKit

/-- The sizes below k. -/
def sizesTo (k : Nat) : List Int := ((List.range k).filter (fun q => decide (2 ≤ q) && decide (0 < (pp q).1))).map Int.ofNat
theorem sizesTo_yes (k : Nat) (h2 : 2 ≤ k) (h : 0 < (pp k).1) : sizesTo (k + 1) = sizesTo k ++ [(k : Int)] := by
  unfold sizesTo; rw [List.range_succ, List.filter_append, List.map_append]; simp [h2, h]
theorem sizesTo_no (k : Nat) (h : ¬ 0 < (pp k).1) : sizesTo (k + 1) = sizesTo k := by
  unfold sizesTo; rw [List.range_succ, List.filter_append, List.map_append]; simp [h]
theorem sizesTo_len (k : Nat) : (sizesTo k).length ≤ k := by
  unfold sizesTo; rw [List.length_map]; exact Nat.le_trans (List.length_filter_le _ _) (by simp)
def sizesL : List Int := [2, 3, 4, 5, 7, 8, 9, 11, 13, 16, 17, 19, 23, 25, 27, 29, 31, 32, 37, 41, 43, 47, 49, 53, 59, 61, 64]
theorem sizesTo_all : sizesTo 65 = sizesL := by decide +kernel

set_option maxHeartbeats 2000000 in
theorem sizes_any (w : World) : Calls Try.prog 28 #[] w fun e w' => ∃ v, e = .returned v ∧ OwnI w.heap.size v sizesL w' ∧ Below w.heap.size w w' := by
  go_enter Try.func28, Try.ntmps28
  go_wp2
  go_loopw [1, 2] (fun v i wr => ∃ k : Nat, 2 ≤ k ∧ k ≤ 65 ∧ i = .int .i64 k ∧ OwnI w.heap.size v (sizesTo k) wr ∧ Below w.heap.size w wr) (fun _ i _ => 65 - (intOf i).toNat)
  case atStart => exact ⟨2, by omega, by omega, rfl, (by have : sizesTo 2 = [] := by decide +kernel
                                                         rw [this]; exact OwnI.nil _ _), Below.refl _ _⟩
  case round =>
    obtain ⟨k, hk2, hk, rfl, hown, hbel⟩ := hrel
    have hlen := sizesTo_len k
    have hsz := hbel.size
    by_cases hlt : k ≤ 64
    · by_cases hpp : 0 < (pp k).1
      · have HP : Hid (sizesTo (k + 1) = sizesTo k ++ [(k : Int)]) := sizesTo_yes k hk2 hpp
        have hpi : (0 : Int) < ((pp k).1 : Int) := by omega
        go_wp2_with (first
          | (go_at_call 51; refine (prime_any k _ hk2 hlt).mono ?_; rintro e w' ⟨rfl, rfl⟩)
          | (at_builtin; refine append_int rfl _ _ rfl w.heap.size _ (sizesTo k) rfl (hown.alloc _) ⟨_, 0, none⟩ 1 k rfl (by simp) (by omega) (by simp; omega) ?_; intro v' w1 hown' hgrow'))
        go_roundw
        case rel => exact ⟨k + 1, by omega, by omega, by go_num, by rw [HP.out]; exact hown', (hbel.alloc (by omega) _).grown hgrow' (by simp; omega) (fun j hj => (hown.lt j hj).1)⟩
        case measure => simp [intOf]; omega
      · have HP : Hid (sizesTo (k + 1) = sizesTo k) := sizesTo_no k hpp
        have hpi : ¬ (0 : Int) < ((pp k).1 : Int) := by omega
        go_wp2_with (go_at_call 51; refine (prime_any k _ hk2 hlt).mono ?_; rintro e w' ⟨rfl, rfl⟩)
        go_roundw
        case rel => exact ⟨k + 1, by omega, by omega, by go_num, by rw [HP.out]; exact hown, hbel⟩
        case measure => simp [intOf]; omega
    · have e : k = 65 := by omega
      subst e
      rw [sizesTo_all] at hown
      go_wp2
      go_ret
      exact ⟨_, rfl, hown, hbel⟩

/-- One of the sizes, the smaller ones more often. -/
def sizeOf' (c : Int) : Int := if pick c 100 < 60 then sizesL.getD (pick c 100 % 7).toNat 0 else sizesL.getD (pick (c.tdiv 100) 27).toNat 0

theorem tdiv_bd (c : Int) (hc1 : -9223372036854775808 ≤ c) (hc2 : c ≤ 9223372036854775807) : -9223372036854775808 ≤ c.tdiv 100 ∧ c.tdiv 100 ≤ 9223372036854775807 := by
  by_cases h : 0 ≤ c
  · rw [Int.tdiv_eq_ediv_of_nonneg h]; omega
  · have : c.tdiv 100 = -((-c).tdiv 100) := by rw [Int.neg_tdiv, Int.neg_neg]
    rw [this, Int.tdiv_eq_ediv_of_nonneg (by omega)]; omega

set_option maxHeartbeats 2000000 in
theorem sizeOf_any (c : Int) (w : World) (hc1 : -9223372036854775808 ≤ c) (hc2 : c ≤ 9223372036854775807) :
    Calls Try.prog 7 #[.int .i64 c] w fun e w' => e = .returned (.int .i64 (sizeOf' c)) ∧ Below w.heap.size w w' := by
  have h1 := pick_lo c 100 (by omega)
  have h2 := pick_hi c 100 (by omega)
  by_cases hk : pick c 100 < 60
  · obtain ⟨z, hz⟩ : ∃ z, z = sizesL.getD (pick c 100 % 7).toNat 0 := ⟨_, rfl⟩
    have HV : Hid (sizeOf' c = z) := by show sizeOf' c = _; rw [sizeOf', if_pos hk, hz]
    have HZ : Hid (z = sizesL.getD (pick c 100 % 7).toNat 0) := hz
    clear hz
    go_enter Try.func7, Try.ntmps7
    go_wp2_with fail
    refine (sizes_any w).mono ?_
    rintro e w1 ⟨v, rfl, hown, hbel⟩
    obtain ⟨g, cap, rfl, hg, hglt, hcell, _⟩ := hown.at (by simp [sizesL])
    have hlen : sizesL.length = 27 := rfl
    rw [hlen] at hcell ⊢
    have hcl : w1.cell? ⟨g, (pick c 100 % 7).toNat, none⟩ = some (.int .i64 z) := by rw [HZ.out]; exact hcell _ (by omega)
    clear hown hcell
    go_wp2_with (go_at_call 8; refine (pick_any c 100 _ hc1 hc2 (by omega) (by omega)).mono ?_; rintro e w' ⟨rfl, rfl⟩)
    go_ret
    exact ⟨ret_int (by rw [HV.out]), hbel⟩
  · obtain ⟨z, hz⟩ : ∃ z, z = sizesL.getD (pick (c.tdiv 100) 27).toNat 0 := ⟨_, rfl⟩
    have HV : Hid (sizeOf' c = z) := by show sizeOf' c = _; rw [sizeOf', if_neg hk, hz]
    have HZ : Hid (z = sizesL.getD (pick (c.tdiv 100) 27).toNat 0) := hz
    clear hz
    have htd := tdiv_bd c hc1 hc2
    have h3 := pick_lo (c.tdiv 100) 27 (by omega)
    have h4 := pick_hi (c.tdiv 100) 27 (by omega)
    go_enter Try.func7, Try.ntmps7
    go_wp2_with fail
    refine (sizes_any w).mono ?_
    rintro e w1 ⟨v, rfl, hown, hbel⟩
    obtain ⟨g, cap, rfl, hg, hglt, hcell, _⟩ := hown.at (by simp [sizesL])
    have hlen : sizesL.length = 27 := rfl
    rw [hlen] at hcell ⊢
    have hcl : w1.cell? ⟨g, (pick (c.tdiv 100) 27).toNat, none⟩ = some (.int .i64 z) := by rw [HZ.out]; exact hcell _ (by omega)
    clear hown hcell
    go_wp2_with fail
    refine (pick_any c 100 _ hc1 hc2 (by omega) (by omega)).mono ?_
    rintro e w' ⟨rfl, rfl⟩
    go_wp2_with fail
    refine (pick_any (c.tdiv 100) 27 _ htd.1 htd.2 (by omega) (by omega)).mono ?_
    rintro e w' ⟨rfl, rfl⟩
    go_wp2
    go_ret
    exact ⟨ret_int (by rw [HV.out]), hbel⟩
end Go.Proofs.Ytcgmllamiaflcaa
