/- Texts of ours, one behind the other: KK14 KK15. -/
import Derived.Test.YtonjkpakbmbafaaZKK13
/- Signs that check: the reference, Checks of books. -/
namespace Go.Proofs.Ytonjkpakbmbafaa
open Go.RowKit

set_option maxHeartbeats 8000000 in
set_option maxRecDepth 100000 in
theorem checks_2 {ao : Option Addr} {n ca : Nat} {d : Nat → Nat} {w : World} (hS : SlZ ao n (dgz d) w) (hd : ∀ j, j < n → d j ≤ 10) (hn : n ≤ 65) :
    Calls Try.prog 55 #[.int .i64 2, .slice ao n ca] w fun e w' => e = .returned (.bool (ckB n d)) ∧ Below w.heap.size w w' := by
  have HF : Hid (SlZ ao n (dgz d) w ∧ (∀ j, j < n → d j ≤ 10)) := ⟨hS, hd⟩
  clear hS hd
  go_enter Try.func55, Try.ntmps55
  go_wp2
  go_loopw [6, 9] (fun vs vi wr => ∃ (r s : Nat), r ≤ n ∧ s ≤ 100000 ∧ vs = .int .i64 (s : Nat) ∧ vi = .int .i64 (r : Nat) ∧ Hid (s = dsu (fun i => (n - i) * d i) r ∧ wr = w)) (fun _ vi _ => n - (intOf vi).toNat)
  case atStart => exact ⟨0, 0, by omega, by omega, rfl, rfl, rfl, rfl⟩
  case round =>
    obtain ⟨r, s, hr, hs, rfl, rfl, HG⟩ := hrel
    rename World => wr
    have hw : wr = w := HG.out.2
    subst hw
    by_cases hlt : r < n
    · have hib : (r : Int) < (n : Int) := by omega
      have hib0 : (0 : Int) ≤ (r : Int) := by omega
      obtain ⟨ba, oa, hao, hca⟩ := HF.out.1 r hlt
      subst hao
      obtain ⟨x, hx⟩ : ∃ x, x = d r := ⟨_, rfl⟩
      have hx10 : x ≤ 10 := by rw [hx]; exact HF.out.2 r hlt
      have hxz : dgz d r = (x : Int) := by rw [hx]; rfl
      rw [hxz] at hca
      obtain ⟨k, hk⟩ : ∃ k, k = n - r := ⟨_, rfl⟩
      have wk : IntKind.i64.wrap ((n : Int) - (r : Int)) = (k : Int) := wrpT (by omega) (by omega)
      obtain ⟨u, hu⟩ : ∃ u, u = k * x := ⟨_, rfl⟩
      have hub : u ≤ 650 := by rw [hu]; exact Nat.le_trans (Nat.mul_le_mul (by omega : k ≤ 65) hx10) (by omega)
      have wu : IntKind.i64.wrap ((k : Int) * (x : Int)) = (u : Int) := wrpT (by rw [hu]; simp) (by omega)
      obtain ⟨s2, hs2⟩ : ∃ s2, s2 = s + u := ⟨_, rfl⟩
      have ws : IntKind.i64.wrap ((s : Int) + (u : Int)) = (s2 : Int) := wrpT (by omega) (by omega)
      have HV : Hid (s2 = dsu (fun i => (n - i) * d i) (r + 1)) := by
        show s2 = dsu _ r + (n - r) * d r
        rw [hs2, HG.out.1, hu, hk, hx]
      have hs2b : s2 ≤ 100000 := by
        rw [HV.out]
        have := dsu_le (f := fun i => (n - i) * d i) (B := 650) (r + 1) (fun i hi => Nat.le_trans (Nat.mul_le_mul (by omega : n - i ≤ 65) (HF.out.2 i (by omega))) (by omega))
        omega
      have hkb : k ≤ 65 := by omega
      clear hx hxz hk hu hs2
      go_wp2
      go_roundw
      case rel => exact ⟨r + 1, s2, by omega, hs2b, by first | rfl | go_num, by first | rfl | go_num, HV.out, by first | rfl | trivial⟩
      case measure => simp [intOf]; omega
    · have hib : ¬ (r : Int) < (n : Int) := by omega
      have hre : r = n := by omega
      obtain ⟨R, hR⟩ : ∃ R, R = s % 11 := ⟨_, rfl⟩
      have wR : Int.tmod (s : Int) 11 = (R : Int) := by rw [hR]; rfl
      have hsn : s = dsu (fun i => (n - i) * d i) n := by rw [HG.out.1, hre]
      have HV : Hid (((R : Int) == 0) = ckB n d) := by
        show _ = ckB n d
        unfold ckB
        rw [← hsn, ← hR]; exact int_beq R 0
      clear hre hR hsn
      go_wp2
      go_ret
      exact ⟨by rw [← HV.out]; rfl, Below.refl _ _⟩
end Go.Proofs.Ytonjkpakbmbafaa

/- Signs that check: the reference, Checks of trade. -/
namespace Go.Proofs.Ytonjkpakbmbafaa
open Go.RowKit

theorem cell_more {w : World} {a : Addr} {v : Value} (o : Obj) (h : w.cell? a = some v) : ((w.alloc o).drew).cell? a = some v := by
  show (w.alloc o).cell? a = some v
  have hlt : a.block < w.heap.size := by
    cases hq : w.heap[a.block]? with
    | none => simp [World.cell?, hq] at h
    | some x => exact lt_of_block hq
  unfold World.cell? at h ⊢
  rw [Below.heap_alloc w o _ hlt]; exact h

set_option maxHeartbeats 8000000 in
set_option maxRecDepth 100000 in
theorem checks_3 {ao : Option Addr} {n ca : Nat} {d : Nat → Nat} {w : World} (hS : SlZ ao n (dgz d) w) (hd : ∀ j, j < n → d j ≤ 10) (hn : n ≤ 65) :
    Calls Try.prog 55 #[.int .i64 3, .slice ao n ca] w fun e w' => e = .returned (.bool (ckT n d)) ∧ Below w.heap.size w w' := by
  have HF : Hid (SlZ ao n (dgz d) w ∧ (∀ j, j < n → d j ≤ 10)) := ⟨hS, hd⟩
  clear hS hd
  go_enter Try.func55, Try.ntmps55
  go_wp2
  go_loopw [6, 10] (fun vs vi wr => ∃ (r s : Nat), r ≤ n ∧ s ≤ 100000 ∧ vs = .int .i64 (s : Nat) ∧ vi = .int .i64 (r : Nat) ∧ Hid (s = dsu (fun i => d i * (1 + i % 2 * 2)) r ∧ Below w.heap.size w wr)) (fun _ vi _ => n - (intOf vi).toNat)
  case atStart => exact ⟨0, 0, by omega, by omega, rfl, rfl, rfl, Below.refl _ _⟩
  case round =>
    obtain ⟨r, s, hr, hs, rfl, rfl, HG⟩ := hrel
    rename World => wr
    by_cases hlt : r < n
    · have hib : (r : Int) < (n : Int) := by omega
      have hib0 : (0 : Int) ≤ (r : Int) := by omega
      obtain ⟨ba, oa, hao, hca⟩ := (slz_below HF.out.1 HG.out.2) r hlt
      subst hao
      obtain ⟨x, hx⟩ : ∃ x, x = d r := ⟨_, rfl⟩
      have hx10 : x ≤ 10 := by rw [hx]; exact HF.out.2 r hlt
      have hxz : dgz d r = (x : Int) := by rw [hx]; rfl
      rw [hxz] at hca
      obtain ⟨p, hp⟩ : ∃ p, p = r % 2 := ⟨_, rfl⟩
      have wp : Int.tmod (r : Int) 2 = (p : Int) := by rw [hp]; rfl
      have hpb : p < 2 := by omega
      obtain ⟨k, hk⟩ : ∃ k, k = 1 + p * 2 := ⟨_, rfl⟩
      obtain ⟨u, hu⟩ : ∃ u, u = x * k := ⟨_, rfl⟩
      have hub : u ≤ 30 := by rw [hu]; exact Nat.le_trans (Nat.mul_le_mul hx10 (by omega : k ≤ 3)) (by omega)
      have wu : IntKind.i64.wrap ((x : Int) * (k : Int)) = (u : Int) := wrpT (by rw [hu]; simp) (by omega)
      obtain ⟨s2, hs2⟩ : ∃ s2, s2 = s + u := ⟨_, rfl⟩
      have ws : IntKind.i64.wrap ((s : Int) + (u : Int)) = (s2 : Int) := wrpT (by omega) (by omega)
      have HV : Hid (s2 = dsu (fun i => d i * (1 + i % 2 * 2)) (r + 1)) := by
        show s2 = dsu _ r + d r * (1 + r % 2 * 2)
        rw [hs2, HG.out.1, hu, hk, hp, hx]
      have hs2b : s2 ≤ 100000 := by
        rw [HV.out]
        have := dsu_le (f := fun i => d i * (1 + i % 2 * 2)) (B := 30) (r + 1) (fun i hi => Nat.le_trans (Nat.mul_le_mul (HF.out.2 i (by omega)) (by omega : 1 + i % 2 * 2 ≤ 3)) (by omega))
        omega
      have hp2 : p = 0 ∧ k = 1 ∨ p = 1 ∧ k = 3 := by omega
      have HS2 : Hid (s2 = s + x * k) := by show s2 = s + x * k; rw [hs2, hu]
      have HB : Hid (Below w.heap.size w (wr.alloc (.cells #[.int .i64 1, .int .i64 3] 3)).drew) := (HG.out.2.alloc HG.out.2.size _).drew
      clear hx hxz hk hu hs2 hp
      have hcb := cell_more (.cells #[.int .i64 1, .int .i64 3] 3) hca
      rcases hp2 with ⟨rfl, rfl⟩ | ⟨rfl, rfl⟩
      all_goals
        go_wp2
        go_region
        go_wp2
        go_roundw
        case rel => exact ⟨r + 1, s2, by omega, hs2b, by first | rfl | (refine congrArg (Value.int .i64) ?_; have := HS2.out; omega), by first | rfl | go_num, HV.out, HB.out⟩
        case measure => simp [intOf]; omega
    · have hib : ¬ (r : Int) < (n : Int) := by omega
      have hre : r = n := by omega
      obtain ⟨R, hR⟩ : ∃ R, R = s % 10 := ⟨_, rfl⟩
      have wR : Int.tmod (s : Int) 10 = (R : Int) := by rw [hR]; rfl
      have hsn : s = dsu (fun i => d i * (1 + i % 2 * 2)) n := by rw [HG.out.1, hre]
      have HV : Hid (((R : Int) == 0) = ckT n d) := by
        show _ = ckT n d
        unfold ckT
        rw [← hsn, ← hR]; exact int_beq R 0
      clear hre hR hsn
      go_wp2
      go_ret
      exact ⟨by rw [← HV.out]; rfl, HG.out.2⟩
end Go.Proofs.Ytonjkpakbmbafaa
