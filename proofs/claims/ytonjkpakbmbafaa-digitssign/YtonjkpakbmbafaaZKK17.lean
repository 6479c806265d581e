/- Signs that check: the reference, Checks of Damm's. -/
import Derived.Test.YtonjkpakbmbafaaZKK13
namespace Go.Proofs.Ytonjkpakbmbafaa
open Go.RowKit

set_option maxHeartbeats 8000000 in
set_option maxRecDepth 100000 in
theorem checks_5 {ao : Option Addr} {n ca : Nat} {d : Nat → Nat} {w : World} (hS : SlZ ao n (dgz d) w) (hd : ∀ j, j < n → d j < 10) (hn : n ≤ 65) :
    Calls Try.prog 55 #[.int .i64 5, .slice ao n ca] w fun e w' => e = .returned (.bool (ckD n d)) ∧ Below w.heap.size w w' := by
  obtain ⟨w1, hw1⟩ : ∃ w1, w1 = w.alloc (.cells dqR 9) := ⟨_, rfl⟩
  have hb1 : Below w.heap.size w w1 := by rw [hw1]; exact (Below.refl _ _).alloc (Nat.le_refl _) _
  obtain ⟨T, hT0⟩ : ∃ T, T = w.heap.size := ⟨_, rfl⟩
  have htc : ∀ x, x < 10 → w1.cell? ⟨T, x, none⟩ = some (.string (dqS x)) := fun o ho => by rw [hw1, hT0, cell_of_row _ _ _ dqR 9 (0, 0) (heap_new w _)]; exact dqR_at ho
  have HF : Hid (SlZ ao n (dgz d) w1 ∧ (∀ j, j < n → d j < 10) ∧ Below w.heap.size w w1 ∧ ∀ x, x < 10 → w1.cell? ⟨T, x, none⟩ = some (.string (dqS x))) := ⟨slz_below hS hb1, hd, hb1, htc⟩
  clear hS hd hb1 htc
  go_enter Try.func55, Try.ntmps55
  go_wp2
  have hlit : dqR = #[.string ⟨#[48, 51, 49, 55, 53, 57, 56, 54, 52, 50]⟩, .string ⟨#[55, 48, 57, 50, 49, 53, 52, 56, 54, 51]⟩, .string ⟨#[52, 50, 48, 54, 56, 55, 49, 51, 53, 57]⟩, .string ⟨#[49, 55, 53, 48, 57, 56, 51, 52, 50, 54]⟩, .string ⟨#[54, 49, 50, 51, 48, 52, 53, 57, 55, 56]⟩, .string ⟨#[51, 54, 55, 52, 50, 48, 57, 53, 56, 49]⟩, .string ⟨#[53, 56, 54, 57, 55, 50, 48, 49, 51, 52]⟩, .string ⟨#[56, 57, 52, 53, 51, 54, 50, 48, 49, 55]⟩, .string ⟨#[57, 52, 51, 56, 54, 49, 55, 50, 48, 53]⟩, .string ⟨#[50, 53, 56, 49, 52, 51, 54, 55, 57, 48]⟩] := rfl
  rw [← hlit, ← hw1]
  try rw [← hT0]
  clear hw1 hT0 hlit
  go_loopw [6, 16] (fun vs vi wr => ∃ (r c nd : Nat), r ≤ n ∧ c < 10 ∧ vs = .int .i64 (c : Nat) ∧ vi = .int .i64 (r : Nat) ∧ Hid (c = dfo d r ∧ wr = w1.drewN nd)) (fun _ vi _ => n - (intOf vi).toNat)
  case atStart => exact ⟨0, 0, 0, by omega, by omega, rfl, rfl, rfl, rfl⟩
  case round =>
    obtain ⟨r, c, nd, hr, hc, rfl, rfl, HG⟩ := hrel
    rename World => wr
    have hcb : (c : Int) < 10 := by omega
    have hcb0 : (0 : Int) ≤ (c : Int) := by omega
    by_cases hlt : r < n
    · have hib : (r : Int) < (n : Int) := by omega
      have hib0 : (0 : Int) ≤ (r : Int) := by omega
      obtain ⟨ba, oa, hao, hca⟩ := HF.out.1 r hlt
      replace hca : wr.cell? ⟨ba, oa + r, none⟩ = some (.int .i64 (dgz d r)) := by rw [HG.out.2]; exact hca
      subst hao
      obtain ⟨x, hx⟩ : ∃ x, x = d r := ⟨_, rfl⟩
      have hx10 : x < 10 := by rw [hx]; exact HF.out.2.1 r hlt
      have hxz : dgz d r = (x : Int) := by rw [hx]; rfl
      rw [hxz] at hca
      obtain ⟨s, hs⟩ : ∃ s, s = dqS c := ⟨_, rfl⟩
      have hct : wr.cell? ⟨T, c, none⟩ = some (.string s) := by rw [HG.out.2, hs]; exact HF.out.2.2.2 c hc
      have hsz : s.size = 10 := by rw [hs]; exact dqS_size c hc
      have hxs : x < s.size := by omega
      obtain ⟨y, hy⟩ : ∃ y, y = dsq c x := ⟨_, rfl⟩
      have hy10 : y < 10 := by rw [hy]; exact dsq_lt c hc x hx10
      have hxy : (s[x]'hxs).toNat = 48 + y := by
        rw [hy]
        have h : ∀ (u : ByteArray) (hu : x < u.size), u = dqS c → (u[x]'hu).toNat = 48 + dsq c x := by
          intro u hu e; subst e; exact dqS_at hc hx10 hu
        exact h s hxs hs
      have wu : IntKind.u8.wrap (((s[x]'hxs).toNat : Int) - 48) = (y : Int) := by rw [show ((s[x]'hxs).toNat : Int) - 48 = (y : Int) by omega]; exact u8_ten y hy10
      have hxi : (x : Int) < (s.size : Int) := by omega
      have hxi0 : (0 : Int) ≤ (x : Int) := by omega
      have HV : Hid (y = dfo d (r + 1)) := by show y = dsq (dfo d r) (d r); rw [hy, HG.out.1, hx]
      clear hx hxz hs hsz hy hxy
      go_wp2
      go_big_quiet (fail)
      go_wp2
      go_roundw
      case rel => exact ⟨r + 1, y, nd + nq, by omega, hy10, by first | rfl | go_num, by first | rfl | go_num, HV.out, by rw [HG.out.2, World.drewN_drewN]⟩
      case measure => simp [intOf]; omega
    · have hib : ¬ (r : Int) < (n : Int) := by omega
      have hre : r = n := by omega
      have HV : Hid (((c : Int) == 0) = ckD n d ∧ Below w.heap.size w wr) := ⟨by
        unfold ckD
        rw [HG.out.1, hre]; exact int_beq _ 0, by rw [HG.out.2]; exact ⟨HF.out.2.2.1.os, HF.out.2.2.1.tape, HF.out.2.2.1.output, HF.out.2.2.1.size, HF.out.2.2.1.block⟩⟩
      clear hre
      go_wp2
      go_ret
      exact ⟨by rw [← HV.out.1]; rfl, HV.out.2⟩
end Go.Proofs.Ytonjkpakbmbafaa
