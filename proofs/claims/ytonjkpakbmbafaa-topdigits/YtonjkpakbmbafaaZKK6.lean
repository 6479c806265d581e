/- Signs that check: the rules of books and of trade, Verhoeff's and Damm's. -/
import Derived.Test.YtonjkpakbmbafaaZKK5
namespace Go.Proofs.Ytonjkpakbmbafaa
open Go.RowKit

set_option maxHeartbeats 8000000 in
set_option maxRecDepth 100000 in
theorem book_any {ao : Option Addr} {n ca : Nat} {d : Nat → Nat} {cs : Array Value} {w : World} (hS : SlZ ao n (dgz d) w) (hd : ∀ j, j < n → d j < 10) (hn : n ≤ 64) :
    Calls Try.prog 84 #[.slice ao n ca, .agg cs] w fun e w' => e = .returned (.int .i64 (sgB n d : Nat)) ∧ Below w.heap.size w w' := by
  obtain ⟨w1, hw1⟩ : ∃ w1, w1 = w.alloc (.cells cs 95) := ⟨_, rfl⟩
  have hb1 : Below w.heap.size w w1 := by rw [hw1]; exact (Below.refl _ _).alloc (Nat.le_refl _) _
  have HF : Hid (SlZ ao n (dgz d) w1 ∧ (∀ j, j < n → d j < 10) ∧ Below w.heap.size w w1) := ⟨slz_below hS hb1, hd, hb1⟩
  clear hS hd hb1
  go_enter Try.func84, Try.ntmps84
  go_wp2
  rw [← hw1]
  clear hw1
  go_loopw [5, 10] (fun vs vi wr => ∃ (r s : Nat), r ≤ n ∧ s ≤ 100000 ∧ vs = .int .i64 (s : Nat) ∧ vi = .int .i64 (r : Nat) ∧ Hid (s = dsu (fun i => (i + 1) * d i) r ∧ wr = w1)) (fun _ vi _ => n - (intOf vi).toNat)
  case atStart => exact ⟨0, 0, by omega, by omega, rfl, rfl, rfl, rfl⟩
  case round =>
    obtain ⟨r, s, hr, hs, rfl, rfl, HG⟩ := hrel
    rename World => wr
    have hw : wr = w1 := HG.out.2
    subst hw
    by_cases hlt : r < n
    · have hib : (r : Int) < (n : Int) := by omega
      obtain ⟨ba, oa, hao, hca⟩ := HF.out.1 r hlt
      subst hao
      obtain ⟨x, hx⟩ : ∃ x, x = d r := ⟨_, rfl⟩
      have hx10 : x < 10 := by rw [hx]; exact HF.out.2.1 r hlt
      have hxz : dgz d r = (x : Int) := by rw [hx]; rfl
      rw [hxz] at hca
      obtain ⟨k, hk⟩ : ∃ k, k = r + 1 := ⟨_, rfl⟩
      have wk : IntKind.i64.wrap ((r : Int) + 1) = (k : Int) := wrpT (by omega) (by omega)
      obtain ⟨u, hu⟩ : ∃ u, u = k * x := ⟨_, rfl⟩
      have hub : u ≤ 650 := by rw [hu]; exact Nat.le_trans (Nat.mul_le_mul (by omega : k ≤ 65) (by omega : x ≤ 10)) (by omega)
      have wu : IntKind.i64.wrap ((k : Int) * (x : Int)) = (u : Int) := wrpT (by rw [hu]; simp) (by omega)
      obtain ⟨s2, hs2⟩ : ∃ s2, s2 = s + u := ⟨_, rfl⟩
      have ws : IntKind.i64.wrap ((s : Int) + (u : Int)) = (s2 : Int) := wrpT (by omega) (by omega)
      have HV : Hid (s2 = dsu (fun i => (i + 1) * d i) (r + 1)) := by
        show s2 = dsu _ r + (r + 1) * d r
        rw [hs2, HG.out.1, hu, hk, hx]
      have hs2b : s2 ≤ 100000 := by
        rw [HV.out]
        have := dsu_le (f := fun i => (i + 1) * d i) (B := 650) (r + 1) (fun i hi => Nat.le_trans (Nat.mul_le_mul (by omega : i + 1 ≤ 65) (by have := HF.out.2.1 i (by omega); omega : d i ≤ 10)) (by omega))
        omega
      have HK : Hid (k = r + 1) := hk
      clear hx hxz hk hu hs2
      go_wp2
      go_roundw
      case rel => exact ⟨k, s2, by have := HK.out; omega, hs2b, by first | rfl | go_num, by first | rfl | go_num, by rw [HK.out]; exact HV.out, by first | rfl | trivial⟩
      case measure => simp [intOf]; have := HK.out; omega
    · have hib : ¬ (r : Int) < (n : Int) := by omega
      have hre : r = n := by omega
      obtain ⟨R, hR⟩ : ∃ R, R = s % 11 := ⟨_, rfl⟩
      have wR : Int.tmod (s : Int) 11 = (R : Int) := by rw [hR]; rfl
      have HV : Hid (R = sgB n d) := by show R = sgB n d; rw [hR, HG.out.1, hre]; rfl
      clear hre hR
      go_wp2
      go_ret
      exact ⟨by rw [HV.out]; rfl, HF.out.2.2⟩

set_option maxHeartbeats 8000000 in
set_option maxRecDepth 100000 in
theorem trade_any {ao : Option Addr} {n ca : Nat} {d : Nat → Nat} {cs : Array Value} {w : World} (hS : SlZ ao n (dgz d) w) (hd : ∀ j, j < n → d j < 10) (hn : n ≤ 64) :
    Calls Try.prog 85 #[.slice ao n ca, .agg cs] w fun e w' => e = .returned (.int .i64 (sgT n d : Nat)) ∧ Below w.heap.size w w' := by
  obtain ⟨w1, hw1⟩ : ∃ w1, w1 = w.alloc (.cells cs 95) := ⟨_, rfl⟩
  have hb1 : Below w.heap.size w w1 := by rw [hw1]; exact (Below.refl _ _).alloc (Nat.le_refl _) _
  have HF : Hid (SlZ ao n (dgz d) w1 ∧ (∀ j, j < n → d j < 10) ∧ Below w.heap.size w w1) := ⟨slz_below hS hb1, hd, hb1⟩
  clear hS hd hb1
  go_enter Try.func85, Try.ntmps85
  go_wp2
  rw [← hw1]
  clear hw1
  go_loopw [5, 10] (fun vs vi wr => ∃ (r s : Nat), r ≤ n ∧ s ≤ 100000 ∧ vs = .int .i64 (s : Nat) ∧ vi = .int .i64 (r : Nat) ∧ Hid (s = dsu (fun i => (1 + i % 2 * 2) * d i) r ∧ wr = w1)) (fun _ vi _ => n - (intOf vi).toNat)
  case atStart => exact ⟨0, 0, by omega, by omega, rfl, rfl, rfl, rfl⟩
  case round =>
    obtain ⟨r, s, hr, hs, rfl, rfl, HG⟩ := hrel
    rename World => wr
    have hw : wr = w1 := HG.out.2
    subst hw
    by_cases hlt : r < n
    · have hib : (r : Int) < (n : Int) := by omega
      obtain ⟨ba, oa, hao, hca⟩ := HF.out.1 r hlt
      subst hao
      obtain ⟨x, hx⟩ : ∃ x, x = d r := ⟨_, rfl⟩
      have hx10 : x < 10 := by rw [hx]; exact HF.out.2.1 r hlt
      have hxz : dgz d r = (x : Int) := by rw [hx]; rfl
      rw [hxz] at hca
      obtain ⟨p, hp⟩ : ∃ p, p = r % 2 := ⟨_, rfl⟩
      have wp : Int.tmod (r : Int) 2 = (p : Int) := by rw [hp]; rfl
      obtain ⟨p2, hp2⟩ : ∃ p2, p2 = p * 2 := ⟨_, rfl⟩
      have wp2 : IntKind.i64.wrap ((p : Int) * 2) = (p2 : Int) := wrpT (by omega) (by omega)
      obtain ⟨k, hk⟩ : ∃ k, k = 1 + p2 := ⟨_, rfl⟩
      have wk : IntKind.i64.wrap (1 + (p2 : Int)) = (k : Int) := wrpT (by omega) (by omega)
      obtain ⟨u, hu⟩ : ∃ u, u = k * x := ⟨_, rfl⟩
      have hub : u ≤ 30 := by rw [hu]; exact Nat.le_trans (Nat.mul_le_mul (by omega : k ≤ 3) (by omega : x ≤ 10)) (by omega)
      have wu : IntKind.i64.wrap ((k : Int) * (x : Int)) = (u : Int) := wrpT (by rw [hu]; simp) (by omega)
      obtain ⟨s2, hs2⟩ : ∃ s2, s2 = s + u := ⟨_, rfl⟩
      have ws : IntKind.i64.wrap ((s : Int) + (u : Int)) = (s2 : Int) := wrpT (by omega) (by omega)
      have HV : Hid (s2 = dsu (fun i => (1 + i % 2 * 2) * d i) (r + 1)) := by
        show s2 = dsu _ r + (1 + r % 2 * 2) * d r
        rw [hs2, HG.out.1, hu, hk, hp2, hp, hx]
      have hs2b : s2 ≤ 100000 := by
        rw [HV.out]
        have := dsu_le (f := fun i => (1 + i % 2 * 2) * d i) (B := 30) (r + 1) (fun i hi => Nat.le_trans (Nat.mul_le_mul (by omega : 1 + i % 2 * 2 ≤ 3) (by have := HF.out.2.1 i (by omega); omega : d i ≤ 10)) (by omega))
        omega
      have hkb : k ≤ 3 := by omega
      have hpb : p ≤ 1 := by omega
      clear hx hxz hk hu hs2 hp hp2
      go_wp2
      go_roundw
      case rel => exact ⟨r + 1, s2, by omega, hs2b, by first | rfl | go_num, by first | rfl | go_num, HV.out, by first | rfl | trivial⟩
      case measure => simp [intOf]; omega
    · have hib : ¬ (r : Int) < (n : Int) := by omega
      have hre : r = n := by omega
      have HV : Hid (toT s = sgT n d) := by show toT s = sgT n d; rw [HG.out.1, hre]; rfl
      have HC : Hid (Calls Try.prog 102 #[.int .i64 (s : Nat)] wr fun e w' => e = .returned (.int .i64 (toT s : Nat)) ∧ w' = wr) := toTen_any wr
      obtain ⟨R, hR⟩ : ∃ R, R = toT s := ⟨_, rfl⟩
      rw [← hR] at HC HV
      clear hre hR
      go_wp2_with (go_at_call 102; refine HC.out.mono ?_; rintro e w' ⟨rfl, hw⟩; have hw := hw.symm; subst hw)
      go_ret
      exact ⟨by rw [HV.out]; rfl, HF.out.2.2⟩

set_option maxHeartbeats 8000000 in
set_option maxRecDepth 100000 in
theorem damm_any {ao : Option Addr} {n ca : Nat} {d : Nat → Nat} {cs : Array Value} {w : World} (hT : TabD cs) (hS : SlZ ao n (dgz d) w) (hd : ∀ j, j < n → d j < 10) (hn : n ≤ 64) :
    Calls Try.prog 87 #[.slice ao n ca, .agg cs] w fun e w' => e = .returned (.int .i64 (sgD n d : Nat)) ∧ Below w.heap.size w w' := by
  obtain ⟨w1, hw1⟩ : ∃ w1, w1 = w.alloc (.cells cs 95) := ⟨_, rfl⟩
  have hb1 : Below w.heap.size w w1 := by rw [hw1]; exact (Below.refl _ _).alloc (Nat.le_refl _) _
  obtain ⟨T, hT0⟩ : ∃ T, T = w.heap.size := ⟨_, rfl⟩
  have htc : ∀ o, w1.cell? ⟨T, o, none⟩ = cs[o]? := fun o => by rw [hw1, hT0]; exact cell_of_row _ _ _ cs 95 (0, 0) (heap_new w _)
  have HF : Hid (SlZ ao n (dgz d) w1 ∧ (∀ j, j < n → d j < 10) ∧ Below w.heap.size w w1 ∧ TabD cs ∧ ∀ o, w1.cell? ⟨T, o, none⟩ = cs[o]?) := ⟨slz_below hS hb1, hd, hb1, hT, htc⟩
  clear hS hd hb1 htc hT
  go_enter Try.func87, Try.ntmps87
  go_wp2
  rw [← hw1]
  try rw [← hT0]
  clear hw1 hT0
  go_loopw [5, 10] (fun vs vi wr => ∃ (r c nd : Nat), r ≤ n ∧ c < 10 ∧ vs = .int .i64 (c : Nat) ∧ vi = .int .i64 (r : Nat) ∧ Hid (c = dfo d r ∧ wr = w1.drewN nd)) (fun _ vi _ => n - (intOf vi).toNat)
  case atStart => exact ⟨0, 0, 0, by omega, by omega, rfl, rfl, rfl, rfl⟩
  case round =>
    obtain ⟨r, c, nd, hr, hc, rfl, rfl, HG⟩ := hrel
    rename World => wr
    have hcb : (c : Int) < 10 := by omega
    have hcb0 : (0 : Int) ≤ (c : Int) := by omega
    by_cases hlt : r < n
    · have hib : (r : Int) < (n : Int) := by omega
      obtain ⟨ba, oa, hao, hca⟩ := HF.out.1 r hlt
      replace hca : wr.cell? ⟨ba, oa + r, none⟩ = some (.int .i64 (dgz d r)) := by rw [HG.out.2]; exact hca
      subst hao
      obtain ⟨x, hx⟩ : ∃ x, x = d r := ⟨_, rfl⟩
      have hx10 : x < 10 := by rw [hx]; exact HF.out.2.1 r hlt
      have hxz : dgz d r = (x : Int) := by rw [hx]; rfl
      rw [hxz] at hca
      have hxb : (x : Int) < 10 := by omega
      have hxb0 : (0 : Int) ≤ (x : Int) := by omega
      obtain ⟨c2, hc2⟩ : ∃ c2, c2 = dsq c x := ⟨_, rfl⟩
      have hc2b : c2 < 10 := by rw [hc2]; exact dsq_lt c hc x hx10
      have hct : wr.cell? ⟨T, 190 + c * 10 + x, none⟩ = some (.int .i64 (c2 : Nat)) := by
        rw [HG.out.2]
        show w1.cell? _ = _
        rw [HF.out.2.2.2.2, HF.out.2.2.2.1.sqr c x hc hx10, hc2]; rfl
      have HV : Hid (c2 = dfo d (r + 1)) := by show c2 = dsq (dfo d r) (d r); rw [hc2, HG.out.1, hx]
      clear hx hxz hc2
      go_wp2
      go_roundw
      case rel => exact ⟨r + 1, c2, nd, by omega, hc2b, by first | rfl | go_num, by first | rfl | go_num, HV.out, HG.out.2⟩
      case measure => simp [intOf]; omega
    · have hib : ¬ (r : Int) < (n : Int) := by omega
      have hre : r = n := by omega
      have HV : Hid (c = sgD n d ∧ Below w.heap.size w wr) := ⟨by rw [HG.out.1, hre]; rfl, by rw [HG.out.2]; exact ⟨HF.out.2.2.1.os, HF.out.2.2.1.tape, HF.out.2.2.1.output, HF.out.2.2.1.size, HF.out.2.2.1.block⟩⟩
      clear hre
      go_wp2
      go_ret
      exact ⟨by rw [HV.out.1]; rfl, HV.out.2⟩

set_option maxHeartbeats 8000000 in
set_option maxRecDepth 100000 in
theorem verhoeff_any {ao : Option Addr} {n ca : Nat} {d : Nat → Nat} {cs : Array Value} {w : World} (hT : TabD cs) (hS : SlZ ao n (dgz d) w) (hd : ∀ j, j < n → d j < 10) (hn : n ≤ 64) :
    Calls Try.prog 86 #[.slice ao n ca, .agg cs] w fun e w' => e = .returned (.int .i64 (sgV n d : Nat)) ∧ Below w.heap.size w w' := by
  obtain ⟨w1, hw1⟩ : ∃ w1, w1 = w.alloc (.cells cs 95) := ⟨_, rfl⟩
  have hb1 : Below w.heap.size w w1 := by rw [hw1]; exact (Below.refl _ _).alloc (Nat.le_refl _) _
  obtain ⟨T, hT0⟩ : ∃ T, T = w.heap.size := ⟨_, rfl⟩
  have htc : ∀ o, w1.cell? ⟨T, o, none⟩ = cs[o]? := fun o => by rw [hw1, hT0]; exact cell_of_row _ _ _ cs 95 (0, 0) (heap_new w _)
  have HF : Hid (SlZ ao n (dgz d) w1 ∧ (∀ j, j < n → d j < 10) ∧ Below w.heap.size w w1 ∧ TabD cs ∧ ∀ o, w1.cell? ⟨T, o, none⟩ = cs[o]?) := ⟨slz_below hS hb1, hd, hb1, hT, htc⟩
  clear hS hd hb1 htc hT
  go_enter Try.func86, Try.ntmps86
  go_wp2
  rw [← hw1]
  try rw [← hT0]
  clear hw1 hT0
  go_loopw [5, 10] (fun vs vi wr => ∃ (r c nd : Nat), r ≤ n ∧ c < 10 ∧ vs = .int .i64 (c : Nat) ∧ vi = .int .i64 (r : Nat) ∧ Hid (c = vfo d n r ∧ wr = w1.drewN nd)) (fun _ vi _ => n - (intOf vi).toNat)
  case atStart => exact ⟨0, 0, 0, by omega, by omega, rfl, rfl, rfl, rfl⟩
  case round =>
    obtain ⟨r, c, nd, hr, hc, rfl, rfl, HG⟩ := hrel
    rename World => wr
    have hcb : (c : Int) < 10 := by omega
    have hcb0 : (0 : Int) ≤ (c : Int) := by omega
    by_cases hlt : r < n
    · have hib : (r : Int) < (n : Int) := by omega
      obtain ⟨n1, hn1⟩ : ∃ n1, n1 = n - 1 := ⟨_, rfl⟩
      have wn1 : IntKind.i64.wrap ((n : Int) - 1) = (n1 : Int) := wrpT (by omega) (by omega)
      obtain ⟨j, hj⟩ : ∃ j, j = n - 1 - r := ⟨_, rfl⟩
      have wj : IntKind.i64.wrap ((n1 : Int) - (r : Int)) = (j : Int) := wrpT (by omega) (by omega)
      have hjn : j < n := by omega
      have hjb : (j : Int) < (n : Int) := by omega
      have hjb0 : (0 : Int) ≤ (j : Int) := by omega
      obtain ⟨ba, oa, hao, hca⟩ := HF.out.1 j hjn
      replace hca : wr.cell? ⟨ba, oa + j, none⟩ = some (.int .i64 (dgz d j)) := by rw [HG.out.2]; exact hca
      subst hao
      obtain ⟨x, hx⟩ : ∃ x, x = d j := ⟨_, rfl⟩
      have hx10 : x < 10 := by rw [hx]; exact HF.out.2.1 j hjn
      have hxz : dgz d j = (x : Int) := by rw [hx]; rfl
      rw [hxz] at hca
      have hxb : (x : Int) < 10 := by omega
      have hxb0 : (0 : Int) ≤ (x : Int) := by omega
      obtain ⟨r1, hr1⟩ : ∃ r1, r1 = r + 1 := ⟨_, rfl⟩
      have wr1 : IntKind.i64.wrap ((r : Int) + 1) = (r1 : Int) := wrpT (by omega) (by omega)
      obtain ⟨k, hk⟩ : ∃ k, k = r1 % 8 := ⟨_, rfl⟩
      have wk : Int.tmod (r1 : Int) 8 = (k : Int) := by rw [hk]; rfl
      have hk8 : k < 8 := by omega
      have hkb : (k : Int) < 8 := by omega
      have hkb0 : (0 : Int) ≤ (k : Int) := by omega
      obtain ⟨y, hy⟩ : ∃ y, y = vtk k x := ⟨_, rfl⟩
      have hy10 : y < 10 := by rw [hy]; exact vtk_lt hx10 k
      have hyb : (y : Int) < 10 := by omega
      have hyb0 : (0 : Int) ≤ (y : Int) := by omega
      obtain ⟨c2, hc2⟩ : ∃ c2, c2 = dih c y := ⟨_, rfl⟩
      have hc2b : c2 < 10 := by rw [hc2]; exact dih_lt
      have hct : wr.cell? ⟨T, 110 + k * 10 + x, none⟩ = some (.int .i64 (y : Nat)) := by
        rw [HG.out.2]
        show w1.cell? _ = _
        rw [HF.out.2.2.2.2, HF.out.2.2.2.1.trn x k hx10 hk8, hy]; rfl
      have hcg : wr.cell? ⟨T, c * 10 + y, none⟩ = some (.int .i64 (c2 : Nat)) := by
        rw [HG.out.2]
        show w1.cell? _ = _
        rw [HF.out.2.2.2.2, HF.out.2.2.2.1.grp c y hc hy10, hc2]; rfl
      have HV : Hid (c2 = vfo d n (r + 1) ∧ r1 = r + 1) := ⟨by show c2 = dih (vfo d n r) (vtk ((r + 1) % 8) (d (n - 1 - r))); rw [hc2, HG.out.1, hy, hk, hr1, hx, hj], hr1⟩
      clear hx hxz hc2 hn1 hj hk hy hr1
      go_wp2
      go_big_quiet (fail)
      go_wp2
      go_roundw
      case rel => exact ⟨r + 1, c2, nd + nq, by omega, hc2b, by first | rfl | go_num, by rw [← HV.out.2], HV.out.1, by rw [HG.out.2, World.drewN_drewN]⟩
      case measure => simp [intOf]; have := HV.out.2; omega
    · have hib : ¬ (r : Int) < (n : Int) := by omega
      have hre : r = n := by omega
      obtain ⟨R, hR⟩ : ∃ R, R = dnv c := ⟨_, rfl⟩
      have hct : wr.cell? ⟨T, 100 + c, none⟩ = some (.int .i64 (R : Nat)) := by
        rw [HG.out.2]
        show w1.cell? _ = _
        rw [HF.out.2.2.2.2, HF.out.2.2.2.1.ends c hc, hR]; rfl
      have HV : Hid (R = sgV n d ∧ Below w.heap.size w wr) := ⟨by rw [hR, HG.out.1, hre]; rfl, by rw [HG.out.2]; exact ⟨HF.out.2.2.1.os, HF.out.2.2.1.tape, HF.out.2.2.1.output, HF.out.2.2.1.size, HF.out.2.2.1.block⟩⟩
      clear hre hR
      go_wp2
      go_ret
      exact ⟨by rw [HV.out.1]; rfl, HV.out.2⟩
end Go.Proofs.Ytonjkpakbmbafaa
