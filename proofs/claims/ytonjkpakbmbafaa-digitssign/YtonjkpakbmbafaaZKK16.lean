/- Signs that check: the reference, Checks of Verhoeff's. -/
import Derived.Test.YtonjkpakbmbafaaZKK13
namespace Go.Proofs.Ytonjkpakbmbafaa
open Go.RowKit

set_option maxHeartbeats 8000000 in
set_option maxRecDepth 100000 in
theorem checks_4 {ao : Option Addr} {n ca : Nat} {d : Nat → Nat} {w : World} (hS : SlZ ao n (dgz d) w) (hd : ∀ j, j < n → d j < 10) (hn : n ≤ 65) :
    Calls Try.prog 55 #[.int .i64 4, .slice ao n ca] w fun e w' => e = .returned (.bool (ckV n d)) ∧ Below w.heap.size w w' := by
  obtain ⟨w1, hw1⟩ : ∃ w1, w1 = w.alloc (.cells vtR 3) := ⟨_, rfl⟩
  have hb1 : Below w.heap.size w w1 := by rw [hw1]; exact (Below.refl _ _).alloc (Nat.le_refl _) _
  obtain ⟨T, hT0⟩ : ∃ T, T = w.heap.size := ⟨_, rfl⟩
  have htc : ∀ x, x < 10 → w1.cell? ⟨T, x, none⟩ = some (nvl (vtn x)) := fun o ho => by rw [hw1, hT0, cell_of_row _ _ _ vtR 3 (0, 0) (heap_new w _)]; exact vtR_at o ho
  have HF : Hid (SlZ ao n (dgz d) w1 ∧ (∀ j, j < n → d j < 10) ∧ Below w.heap.size w w1 ∧ ∀ x, x < 10 → w1.cell? ⟨T, x, none⟩ = some (nvl (vtn x))) := ⟨slz_below hS hb1, hd, hb1, htc⟩
  clear hS hd hb1 htc
  go_enter Try.func55, Try.ntmps55
  go_wp2
  unfold vtR at hw1
  rw [← hw1]
  try rw [← hT0]
  clear hw1 hT0
  go_loopw [6, 12, 13, 14] (fun vs vi _ _ wr => ∃ (r c : Nat), r ≤ n ∧ c < 10 ∧ vs = .int .i64 (c : Nat) ∧ vi = .int .i64 (r : Nat) ∧ Hid (c = rvf d n r ∧ wr = w1)) (fun _ vi _ _ _ => n - (intOf vi).toNat)
  case atStart => exact ⟨0, 0, by omega, by omega, rfl, rfl, rfl, rfl⟩
  case round =>
    obtain ⟨r, c, hr, hc, rfl, rfl, HG⟩ := hrel
    rename World => wr
    have hw : wr = w1 := HG.out.2
    subst hw
    by_cases hlt : r < n
    · have hib : (r : Int) < (n : Int) := by omega
      obtain ⟨n1, hn1⟩ : ∃ n1, n1 = n - 1 := ⟨_, rfl⟩
      have wn1 : IntKind.i64.wrap ((n : Int) - 1) = (n1 : Int) := wrpT (by omega) (by omega)
      obtain ⟨j, hj⟩ : ∃ j, j = n - 1 - r := ⟨_, rfl⟩
      have wj : IntKind.i64.wrap ((n1 : Int) - (r : Int)) = (j : Int) := wrpT (by omega) (by omega)
      have hjn : j < n := by omega
      have hjb : (j : Int) < (n : Int) := by omega
      have hjb0 : (0 : Int) ≤ (j : Int) := by omega
      obtain ⟨ba, oa, hao, hca⟩ := HF.out.1 j hjn
      subst hao
      obtain ⟨x, hx⟩ : ∃ x, x = d j := ⟨_, rfl⟩
      have hx10 : x < 10 := by rw [hx]; exact HF.out.2.1 j hjn
      have hxz : dgz d j = (x : Int) := by rw [hx]; rfl
      rw [hxz] at hca
      obtain ⟨m, hm⟩ : ∃ m, m = r % 8 := ⟨_, rfl⟩
      have wm : Int.tmod (r : Int) 8 = (m : Int) := by rw [hm]; rfl
      have hm8 : m < 8 := by omega
      have HV : Hid (rvf d n (r + 1) = dih c (vtk m x)) := by
        show dih (rvf d n r) (vtk (r % 8) (d (n - 1 - r))) = _
        rw [← HG.out.1, ← hm, ← hj, ← hx]
      clear hx hxz hn1 hj hm
      go_wp2
      go_loopw [13, 14] (fun vx vk wx => ∃ (y t : Nat), t ≤ m ∧ y < 10 ∧ vx = .int .i64 (y : Nat) ∧ vk = .int .i64 (t : Nat) ∧ Hid (y = vtk t x ∧ wx = wr)) (fun _ vk _ => m - (intOf vk).toNat)
      case atStart => exact ⟨x, 0, by omega, hx10, rfl, rfl, rfl, rfl⟩
      case round =>
        obtain ⟨y, t, ht, hy, rfl, rfl, HJ⟩ := hrel
        rename World => wx
        have hw : wx = wr := HJ.out.2
        subst hw
        have hyb : (y : Int) < 10 := by omega
        have hyb0 : (0 : Int) ≤ (y : Int) := by omega
        by_cases hlt2 : t < m
        · have hjb : (t : Int) < (m : Int) := by omega
          obtain ⟨y2, hy2⟩ : ∃ y2, y2 = vtn y := ⟨_, rfl⟩
          have hct : wx.cell? ⟨T, y, none⟩ = some (.int .i64 (y2 : Nat)) := by rw [HF.out.2.2.2 y hy, hy2]; rfl
          have HN : Hid (y2 = vtk (t + 1) x ∧ y2 < 10) := ⟨by rw [hy2, HJ.out.1]; rfl, by rw [hy2]; exact vtn_lt y hy⟩
          clear hy2
          go_wp2
          go_roundw
          case rel => exact ⟨y2, t + 1, by omega, HN.out.2, by first | rfl | go_num, by first | rfl | go_num, HN.out.1, by first | rfl | trivial⟩
          case measure => simp [intOf]; omega
        · have hjb : ¬ (t : Int) < (m : Int) := by omega
          have hte : t = m := by omega
          obtain ⟨c2, hc2⟩ : ∃ c2, c2 = dih c y := ⟨_, rfl⟩
          have HC : Hid (Calls Try.prog 78 #[.int .i64 (c : Nat), .int .i64 (y : Nat)] wx fun e w' => e = .returned (.int .i64 (c2 : Nat)) ∧ w' = wx) := by rw [hc2]; exact rgroup_any hc hy wx
          have HN : Hid (c2 = rvf d n (r + 1) ∧ c2 < 10) := ⟨by rw [HV.out, hc2, HJ.out.1, hte], by rw [hc2]; exact dih_lt⟩
          clear hc2 hte
          go_wp2_with (go_at_call 78; refine HC.out.mono ?_; rintro e w' ⟨rfl, hw⟩; have hw := hw.symm; subst hw)
          go_roundw
          case rel => exact ⟨r + 1, c2, by omega, HN.out.2, by first | rfl | go_num, by first | rfl | go_num, HN.out.1, by first | rfl | trivial⟩
          case measure => simp [intOf]; omega
    · have hib : ¬ (r : Int) < (n : Int) := by omega
      have hre : r = n := by omega
      have HV : Hid (((c : Int) == 0) = ckV n d) := by
        show _ = ckV n d
        unfold ckV
        rw [HG.out.1, hre]; exact int_beq _ 0
      clear hre
      go_wp2
      go_ret
      exact ⟨by rw [← HV.out]; rfl, HF.out.2.2.1⟩
end Go.Proofs.Ytonjkpakbmbafaa
