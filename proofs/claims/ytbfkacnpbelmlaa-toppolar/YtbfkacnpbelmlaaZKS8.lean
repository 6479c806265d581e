/- Polar: cmp.Compare, cmp.Or of two, the comparator of Best. -/
import Derived.Test.YtbfkacnpbelmlaaZKS4
import Derived.Test.YtbfkacnpbelmlaaZLS4
namespace Go.Proofs.Ytbfkacnpbelmlaa
open Go.Shelf Go.RowKit Go.Lib Go.Sort

/-- Which is greater. -/
def cmpW (x y : Int) : Int := if x < y then -1 else if y < x then 1 else 0
set_option maxHeartbeats 2000000 in
theorem nanW_any (x : Int) (w : World) : Calls Try.prog 42 #[.int .i64 x] w fun e w' => e = .returned (.bool false) ∧ w' = w := by
  have z : (x != x) = false := by simp
  go_enter Try.func42, Try.ntmps42
  go_wp2
  go_ret
  exact ⟨rfl, rfl⟩
set_option maxHeartbeats 2000000 in
theorem cmpW_any (x y : Int) (w : World) : Calls Try.prog 29 #[.int .i64 x, .int .i64 y] w fun e w' => e = .returned (.int .i64 (cmpW x y)) ∧ w' = w := by
  obtain ⟨R, hR⟩ : ∃ R, R = cmpW x y := ⟨_, rfl⟩
  rw [← hR]
  have HN : Hid (∀ (x : Int) (w : World), Calls Try.prog 42 #[.int .i64 x] w fun e w' => e = .returned (.bool false) ∧ w' = w) := nanW_any
  by_cases h1 : x < y
  · have HR : Hid (R = -1) := by show R = -1; rw [hR]; unfold cmpW; rw [if_pos h1]
    clear hR
    go_enter Try.func29, Try.ntmps29
    go_wp2_with (go_at_call 42; refine (HN.out _ _).mono ?_; rintro e w' ⟨rfl, hw⟩; have hw := hw.symm; subst hw)
    go_ret
    exact ⟨by rw [HR.out]; rfl, rfl⟩
  · by_cases h2 : y < x
    · have HR : Hid (R = 1) := by show R = 1; rw [hR]; unfold cmpW; rw [if_neg h1, if_pos h2]
      clear hR
      go_enter Try.func29, Try.ntmps29
      go_wp2_with (go_at_call 42; refine (HN.out _ _).mono ?_; rintro e w' ⟨rfl, hw⟩; have hw := hw.symm; subst hw)
      go_ret
      exact ⟨by rw [HR.out]; rfl, rfl⟩
    · have HR : Hid (R = 0) := by show R = 0; rw [hR]; unfold cmpW; rw [if_neg h1, if_neg h2]
      clear hR
      go_enter Try.func29, Try.ntmps29
      go_wp2_with (go_at_call 42; refine (HN.out _ _).mono ?_; rintro e w' ⟨rfl, hw⟩; have hw := hw.symm; subst hw)
      go_ret
      exact ⟨by rw [HR.out]; rfl, rfl⟩

set_option maxHeartbeats 4000000 in
set_option maxRecDepth 100000 in
/-- The first of two that isn't nought. -/
theorem or2_any {g c : Nat} {p q : Int} {w : World} (h0 : w.cell? ⟨g, 0, none⟩ = some (.int .i64 p)) (h1 : w.cell? ⟨g, 1, none⟩ = some (.int .i64 q)) :
    Calls Try.prog 28 #[.slice (some ⟨g, 0, none⟩) 2 c] w fun e w' => e = .returned (.int .i64 (if p = 0 then q else p)) ∧ w' = w := by
  obtain ⟨R, hR⟩ : ∃ R, R = if p = 0 then q else p := ⟨_, rfl⟩
  have HF : Hid ((∀ i : Nat, i < 2 → w.cell? ⟨g, 0 + i, none⟩ = some (.int .i64 (if i = 0 then p else q))) ∧ R = if p = 0 then q else p) := by
    refine ⟨fun i hi => ?_, hR⟩
    have : i = 0 ∨ i = 1 := by omega
    rcases this with rfl | rfl
    · exact h0
    · exact h1
  rw [← hR]
  clear hR h0 h1
  go_enter Try.func28, Try.ntmps28
  go_wp2
  go_loopw [8] (fun vi wr => ∃ i : Nat, i ≤ 2 ∧ vi = .int .i64 (i : Nat) ∧ Hid ((1 ≤ i → p = 0) ∧ (2 ≤ i → q = 0) ∧ wr = w)) (fun vi _ => 2 - (intOf vi).toNat)
  case atStart => exact ⟨0, by omega, rfl, fun h => absurd h (by omega), fun h => absurd h (by omega), rfl⟩
  case round =>
    obtain ⟨i, hi, rfl, HG⟩ := hrel
    rename World => wr
    by_cases hlt : i < 2
    · have hib : (i : Int) < 2 := by omega
      have hib0 : (0 : Int) ≤ (i : Int) := by omega
      have hge : ¬ (2 : Int) ≤ (i : Int) := by omega
      obtain ⟨x, hx⟩ : ∃ x, x = if i = 0 then p else q := ⟨_, rfl⟩
      have hca : wr.cell? ⟨g, 0 + i, none⟩ = some (.int .i64 x) := by rw [HG.out.2.2, hx]; exact HF.out.1 i hlt
      have hcb : wr.cell? ⟨g, i, none⟩ = some (.int .i64 x) := by have := hca; rw [Nat.zero_add] at this; exact this
      by_cases hx0 : x = 0
      · have zq : (x != 0) = false := by rw [hx0]; rfl
        have HN : Hid ((1 ≤ i + 1 → p = 0) ∧ (2 ≤ i + 1 → q = 0) ∧ wr = w) := by
          refine ⟨fun _ => ?_, fun h => ?_, HG.out.2.2⟩
          · by_cases e : i = 0
            · rw [if_pos e] at hx; rw [← hx, hx0]
            · exact HG.out.1 (by omega)
          · rw [if_neg (by omega)] at hx; rw [← hx, hx0]
        clear hx hx0
        go_wp2
        go_roundw
        case rel => exact ⟨i + 1, by omega, by go_num, HN.out⟩
        case measure => simp [intOf]; omega
      · have zq : (x != 0) = true := by rw [bne_iff_ne]; exact hx0
        have HE : Hid (x = R ∧ wr = w) := by
          refine ⟨?_, HG.out.2.2⟩
          rw [HF.out.2]
          by_cases e : i = 0
          · rw [if_pos e] at hx; rw [← hx, if_neg hx0]
          · rw [if_neg e] at hx; rw [if_pos (HG.out.1 (by omega)), hx]
        clear hx hx0
        go_wp2
        go_ret
        exact ⟨by rw [← HE.out.1]; rfl, HE.out.2⟩
    · have hib : ¬ (i : Int) < 2 := by omega
      have HE : Hid (R = 0 ∧ wr = w) := by
        refine ⟨?_, HG.out.2.2⟩
        rw [HF.out.2, if_pos (HG.out.1 (by omega)), HG.out.2.1 (by omega)]
      go_wp2
      go_ret
      exact ⟨by rw [HE.out.1]; rfl, HE.out.2⟩

/-- By two chances and two places. -/
def bcf (lx ly x y : Int) : Int := if cmpW lx ly = 0 then cmpW y x else cmpW lx ly
theorem enters_best1 : ∀ args w, (callFunc 27 args).run Try.prog w = .ok (.enter 27 args) w :=
  enters_of Try.func27 (by kernel_rfl) rfl

set_option maxHeartbeats 8000000 in
set_option maxRecDepth 100000 in
theorem best1_any {cb b o N c x y : Nat} {lx ly : Int} {w : World} (hN : x < N) (hM : y < N) (hc : w.cell? ⟨cb, 0, none⟩ = some (.slice (some ⟨b, o, none⟩) N c)) (hx : w.cell? ⟨b, o + x, none⟩ = some (.int .i64 lx)) (hy : w.cell? ⟨b, o + y, none⟩ = some (.int .i64 ly)) :
    Calls Try.prog 27 #[.int .i64 (x : Nat), .int .i64 (y : Nat), .pointer (some ⟨cb, 0, none⟩)] w fun e w' => e = .returned (.int .i64 (bcf lx ly (x : Nat) (y : Nat))) ∧ ∃ ob, w' = grow (w.drewN 1) #[ob] := by
  have hxN : (x : Int) < (N : Int) := by omega
  have hyN : (y : Int) < (N : Int) := by omega
  have hx0 : (0 : Int) ≤ (x : Int) := by omega
  have hy0 : (0 : Int) ≤ (y : Int) := by omega
  go_enter Try.func27, Try.ntmps27
  go_upto_region 1 with fail
  refine wp_region_noPanic ?_
  refine wp_region_L (S := fun wx => (wx.cell? ⟨cb, 0, none⟩ = some (.slice (some ⟨b, o, none⟩) N c) ∧ wx.cell? ⟨b, o + x, none⟩ = some (.int .i64 lx) ∧ wx.cell? ⟨b, o + y, none⟩ = some (.int .i64 ly))) [] (by kernel_rfl) ?_
  obtain ⟨x0, hx0w⟩ : ∃ x0, x0 = w.drew := ⟨_, rfl⟩
  have hS0 : (x0.cell? ⟨cb, 0, none⟩ = some (.slice (some ⟨b, o, none⟩) N c) ∧ x0.cell? ⟨b, o + x, none⟩ = some (.int .i64 lx) ∧ x0.cell? ⟨b, o + y, none⟩ = some (.int .i64 ly)) := by rw [hx0w]; exact ⟨hc, hx, hy⟩
  rw [← hx0w]
  have H0 : Hid (x0 = w.drew) := hx0w
  clear hc hx hy hx0w
  refine wpAnyL_take (i := 0) (v := ?_) (by rw [List.getElem?_toArray]; rfl) (by decide +kernel) (by decide +kernel) (by decide +kernel) (by decide +kernel) (by decide +kernel) (fun _ _ _ h => h) hS0 (Or.inl ⟨by rfl, ?_⟩) ?_
  rotate_left
  · intro wz hSz; obtain ⟨z0, z1, z2⟩ := hSz; go_simp; first | done | with_reducible rfl | rfl
  try simp only [Act.put, List.setIfInBounds_toArray, List.set_cons_zero, List.set_cons_succ]
  refine wpAnyL_take (i := 1) (v := ?_) (by rw [List.getElem?_toArray]; rfl) (by decide +kernel) (by decide +kernel) (by decide +kernel) (by decide +kernel) (by decide +kernel) (fun _ _ _ h => h) hS0 (Or.inl ⟨by rfl, ?_⟩) ?_
  rotate_left
  · intro wz hSz; obtain ⟨z0, z1, z2⟩ := hSz; go_simp; first | done | with_reducible rfl | rfl
  try simp only [Act.put, List.setIfInBounds_toArray, List.set_cons_zero, List.set_cons_succ]
  refine wpAnyL_take (i := 2) (v := ?_) (by rw [List.getElem?_toArray]; rfl) (by decide +kernel) (by decide +kernel) (by decide +kernel) (by decide +kernel) (by decide +kernel) (fun _ _ _ h => h) hS0 (Or.inl ⟨by rfl, ?_⟩) ?_
  rotate_left
  · intro wz hSz; obtain ⟨z0, z1, z2⟩ := hSz; go_simp; first | done | with_reducible rfl | rfl
  try simp only [Act.put, List.setIfInBounds_toArray, List.set_cons_zero, List.set_cons_succ]
  refine wpAnyL_take (i := 3) (v := ?_) (by rw [List.getElem?_toArray]; rfl) (by decide +kernel) (by decide +kernel) (by decide +kernel) (by decide +kernel) (by decide +kernel) (fun _ _ _ h => h) hS0 (Or.inl ⟨by rfl, ?_⟩) ?_
  rotate_left
  · intro wz hSz; obtain ⟨z0, z1, z2⟩ := hSz; go_simp; first | done | with_reducible rfl | rfl
  try simp only [Act.put, List.setIfInBounds_toArray, List.set_cons_zero, List.set_cons_succ]
  refine wpAnyL_take (i := 4) (v := ?_) (by rw [List.getElem?_toArray]; rfl) (by decide +kernel) (by decide +kernel) (by decide +kernel) (by decide +kernel) (by decide +kernel) (fun _ _ _ h => h) hS0 (Or.inl ⟨by rfl, ?_⟩) ?_
  rotate_left
  · intro wz hSz; obtain ⟨z0, z1, z2⟩ := hSz; go_simp; first | done | with_reducible rfl | rfl
  try simp only [Act.put, List.setIfInBounds_toArray, List.set_cons_zero, List.set_cons_succ]
  refine wpAnyL_take (i := 5) (v := ?_) (by rw [List.getElem?_toArray]; rfl) (by decide +kernel) (by decide +kernel) (by decide +kernel) (by decide +kernel) (by decide +kernel) (fun _ _ _ h => h) hS0 (Or.inl ⟨by rfl, ?_⟩) ?_
  rotate_left
  · intro wz hSz; obtain ⟨z0, z1, z2⟩ := hSz; go_simp; first | done | with_reducible rfl | rfl
  try simp only [Act.put, List.setIfInBounds_toArray, List.set_cons_zero, List.set_cons_succ]
  refine wpAnyL_take (i := 6) (v := ?_) (by rw [List.getElem?_toArray]; rfl) (by decide +kernel) (by decide +kernel) (by decide +kernel) (by decide +kernel) (by decide +kernel) (fun _ _ _ h => h) hS0 (Or.inl ⟨by rfl, ?_⟩) ?_
  rotate_left
  · intro wz hSz; obtain ⟨z0, z1, z2⟩ := hSz; go_simp; first | done | with_reducible rfl | rfl
  try simp only [Act.put, List.setIfInBounds_toArray, List.set_cons_zero, List.set_cons_succ]
  refine wpAnyL_take (i := 7) (v := ?_) (by rw [List.getElem?_toArray]; rfl) (by decide +kernel) (by decide +kernel) (by decide +kernel) (by decide +kernel) (by decide +kernel) (fun _ _ _ h => h) hS0 (Or.inl ⟨by rfl, ?_⟩) ?_
  rotate_left
  · intro wz hSz; obtain ⟨z0, z1, z2⟩ := hSz; go_simp; first | done | with_reducible rfl | rfl
  try simp only [Act.put, List.setIfInBounds_toArray, List.set_cons_zero, List.set_cons_succ]
  refine wpAnyL_take (i := 9) (v := ?_) (by rw [List.getElem?_toArray]; rfl) (by decide +kernel) (by decide +kernel) (by decide +kernel) (by decide +kernel) (by decide +kernel) (fun _ _ _ h => h) hS0 (Or.inl ⟨by rfl, ?_⟩) ?_
  rotate_left
  · intro wz hSz; obtain ⟨z0, z1, z2⟩ := hSz; go_simp; first | done | with_reducible rfl | rfl
  try simp only [Act.put, List.setIfInBounds_toArray, List.set_cons_zero, List.set_cons_succ]
  refine wpAnyL_take (i := 10) (v := ?_) (by rw [List.getElem?_toArray]; rfl) (by decide +kernel) (by decide +kernel) (by decide +kernel) (by decide +kernel) (by decide +kernel) (fun _ _ _ h => h) hS0 (Or.inl ⟨by rfl, ?_⟩) ?_
  rotate_left
  · intro wz hSz; obtain ⟨z0, z1, z2⟩ := hSz; go_simp; first | done | with_reducible rfl | rfl
  try simp only [Act.put, List.setIfInBounds_toArray, List.set_cons_zero, List.set_cons_succ]
  refine wpAnyL_one (i := 8) (by kernel_rfl) (by rw [List.getElem?_toArray]; rfl) (fun K9 hK => ?_)
  have HK : Hid _ := hK
  clear hK
  go_simp
  refine (cmpW_any _ _ _).mono ?_
  rintro e xa ⟨rfl, hxw⟩
  have hxw := hxw.symm
  subst hxw
  refine HK.out _ _ (fun _ => hS0) ?_
  clear HK K9
  try simp only [Act.put, List.setIfInBounds_toArray, List.set_cons_zero, List.set_cons_succ]
  refine wpAnyL_one (i := 11) (by kernel_rfl) (by rw [List.getElem?_toArray]; rfl) (fun K9 hK => ?_)
  have HK : Hid _ := hK
  clear hK
  go_simp
  refine (cmpW_any _ _ _).mono ?_
  rintro e xb ⟨rfl, hxw⟩
  have hxw := hxw.symm
  subst hxw
  refine HK.out _ _ (fun _ => hS0) ?_
  clear HK K9
  try simp only [Act.put, List.setIfInBounds_toArray, List.set_cons_zero, List.set_cons_succ]
  refine wpAnyL_one (i := 12) (by kernel_rfl) (by rw [List.getElem?_toArray]; rfl) (fun K9 hK => ?_)
  have HK : Hid _ := hK
  clear hK
  go_simp
  obtain ⟨x1, hx1⟩ : ∃ x1, x1 = x0.alloc (.cells #[.int .i64 (cmpW lx ly), .int .i64 (cmpW (y : Nat) (x : Nat))] 3) := ⟨_, rfl⟩
  obtain ⟨gT, hgT⟩ : ∃ gT, gT = x0.heap.size := ⟨_, rfl⟩
  have F1 : Hid (x1.cell? ⟨gT, 0, none⟩ = some (.int .i64 (cmpW lx ly)) ∧ x1.cell? ⟨gT, 1, none⟩ = some (.int .i64 (cmpW (y : Nat) (x : Nat))) ∧ ∃ ob, x1 = grow (w.drewN 1) #[ob]) := by
    refine ⟨?_, ?_, .cells #[.int .i64 (cmpW lx ly), .int .i64 (cmpW (y : Nat) (x : Nat))] 3, ?_⟩
    · rw [hx1, hgT]; exact (alc2 x0 _ _ _).1
    · rw [hx1, hgT]; exact (alc2 x0 _ _ _).2
    · rw [hx1, H0.out, alloc_eq_grow]; rfl
  have hS1 : (x1.cell? ⟨cb, 0, none⟩ = some (.slice (some ⟨b, o, none⟩) N c) ∧ x1.cell? ⟨b, o + x, none⟩ = some (.int .i64 lx) ∧ x1.cell? ⟨b, o + y, none⟩ = some (.int .i64 ly)) := by
    have hb : Below x0.heap.size x0 x1 := by rw [hx1]; exact (Below.refl _ _).alloc (Nat.le_refl _) _
    exact ⟨(hb.cell (p := ⟨cb, 0, none⟩) (cell_lt hS0.1)).trans hS0.1, (hb.cell (p := ⟨b, o + x, none⟩) (cell_lt hS0.2.1)).trans hS0.2.1, (hb.cell (p := ⟨b, o + y, none⟩) (cell_lt hS0.2.2)).trans hS0.2.2⟩
  try rw [← hx1]
  try rw [← hgT]
  have HK2 := HK.out
  clear hx1 hgT H0
  refine HK2 _ _ (fun _ => hS1) ?_
  clear HK2 HK K9
  try simp only [Act.put, List.setIfInBounds_toArray, List.set_cons_zero, List.set_cons_succ]
  obtain ⟨R, hR⟩ : ∃ R, R = bcf lx ly (x : Nat) (y : Nat) := ⟨_, rfl⟩
  have HR : Hid (R = bcf lx ly (x : Nat) (y : Nat)) := hR
  have HO : Hid (Calls Try.prog 28 #[.slice (some ⟨gT, 0, none⟩) 2 2] x1 fun e w' => e = .returned (.int .i64 R) ∧ w' = x1) := by rw [hR]; exact or2_any F1.out.1 F1.out.2.1
  clear hR
  refine wpAnyL_one (i := 13) (by kernel_rfl) (by rw [List.getElem?_toArray]; rfl) (fun K9 hK => ?_)
  have HK : Hid _ := hK
  clear hK
  go_simp
  refine (HO.out).mono ?_
  rintro e xc ⟨rfl, hxw⟩
  have hxw := hxw.symm
  subst hxw
  refine HK.out _ _ (fun _ => hS1) ?_
  clear HK K9
  try simp only [Act.put, List.setIfInBounds_toArray, List.set_cons_zero, List.set_cons_succ]
  refine wpAnyL_take (i := 14) (v := ?_) (by rw [List.getElem?_toArray]; rfl) (by decide +kernel) (by decide +kernel) (by decide +kernel) (by decide +kernel) (by decide +kernel) (fun _ _ _ h => h) hS1 (Or.inl ⟨by rfl, ?_⟩) ?_
  rotate_left
  · intro wz hSz; obtain ⟨z0, z1, z2⟩ := hSz; go_simp; first | done | with_reducible rfl | rfl
  try simp only [Act.put, List.setIfInBounds_toArray, List.set_cons_zero, List.set_cons_succ]
  refine wpAnyL_done (by kernel_rfl) (NoPanic.normal ?_)
  go_wp2
  go_ret
  exact ⟨by rw [← HR.out]; rfl, F1.out.2.2⟩
end Go.Proofs.Ytbfkacnpbelmlaa
