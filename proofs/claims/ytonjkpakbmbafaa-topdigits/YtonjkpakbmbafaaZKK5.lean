/- Signs that check: the rules of Luhn, of books and of trade, Verhoeff's and Damm's. -/
import Derived.Test.YtonjkpakbmbafaaZKK4
import Derived.Test.YtonjkpakbmbafaaZS1
namespace Go.Proofs.Ytonjkpakbmbafaa
open Go.RowKit

/-- A list of digits. -/
def dgz (d : Nat → Nat) : Nat → Int := fun j => ((d j : Nat) : Int)

set_option maxHeartbeats 4000000 in
set_option maxRecDepth 100000 in
theorem toTen_any {s : Nat} (w : World) :
    Calls Try.prog 102 #[.int .i64 (s : Nat)] w fun e w' => e = .returned (.int .i64 (toT s : Nat)) ∧ w' = w := by
  obtain ⟨R, hR⟩ : ∃ R, R = toT s := ⟨_, rfl⟩
  rw [← hR]
  unfold toT at hR
  obtain ⟨m, hm⟩ : ∃ m, m = s % 10 := ⟨_, rfl⟩
  have wm : Int.tmod (s : Int) 10 = (m : Int) := by rw [hm]; rfl
  obtain ⟨u, hu⟩ : ∃ u, u = 10 - m := ⟨_, rfl⟩
  have wu : IntKind.i64.wrap (10 - (m : Int)) = (u : Int) := wrpT (by omega) (by omega)
  have wr : Int.tmod (u : Int) 10 = (R : Int) := by rw [hR, hu, hm]; rfl
  clear hR hm hu
  go_enter Try.func102, Try.ntmps102
  go_wp2
  go_ret
  exact ⟨rfl, rfl⟩

set_option maxHeartbeats 8000000 in
set_option maxRecDepth 100000 in
theorem luhn_any {ao : Option Addr} {n ca : Nat} {d : Nat → Nat} {cs : Array Value} {w : World} (hS : SlZ ao n (dgz d) w) (hd : ∀ j, j < n → d j < 10) (hn : n ≤ 64) :
    Calls Try.prog 83 #[.slice ao n ca, .agg cs] w fun e w' => e = .returned (.int .i64 (sgL n d : Nat)) ∧ Below w.heap.size w w' := by
  obtain ⟨w1, hw1⟩ : ∃ w1, w1 = w.alloc (.cells cs 95) := ⟨_, rfl⟩
  have hb1 : Below w.heap.size w w1 := by rw [hw1]; exact (Below.refl _ _).alloc (Nat.le_refl _) _
  have HF : Hid (SlZ ao n (dgz d) w1 ∧ (∀ j, j < n → d j < 10) ∧ Below w.heap.size w w1) := ⟨slz_below hS hb1, hd, hb1⟩
  clear hS hd hb1
  go_enter Try.func83, Try.ntmps83
  go_wp2
  rw [← hw1]
  clear hw1
  go_loopw [5, 10] (fun vs vi wr => ∃ (r s : Nat), r ≤ n ∧ s ≤ 2000 ∧ vs = .int .i64 (s : Nat) ∧ vi = .int .i64 (r : Nat) ∧ Hid (s = dsu (fun i => lwt (n - i) (d i)) r ∧ wr = w1)) (fun _ vi _ => n - (intOf vi).toNat)
  case atStart => exact ⟨0, 0, by omega, by omega, rfl, rfl, rfl, rfl⟩
  case round =>
    obtain ⟨r, s, hr, hs, rfl, rfl, HG⟩ := hrel
    rename World => wr
    have hw : wr = w1 := HG.out.2
    subst hw
    by_cases hlt : r < n
    · have hib : (r : Int) < (n : Int) := by omega
      obtain ⟨ba, oa, hao, hca⟩ := HF.out.1 r hlt
      subst hao
      obtain ⟨x, hx⟩ : ∃ x, x = d r := ⟨_, rfl⟩
      have hx10 : x < 10 := by rw [hx]; exact HF.out.2.1 r hlt
      have hxz : dgz d r = (x : Int) := by rw [hx]; rfl
      rw [hxz] at hca
      obtain ⟨m, hm⟩ : ∃ m, m = n - r := ⟨_, rfl⟩
      have wm : IntKind.i64.wrap ((n : Int) - (r : Int)) = (m : Int) := wrpT (by omega) (by omega)
      obtain ⟨p, hp⟩ : ∃ p, p = m % 2 := ⟨_, rfl⟩
      have wp : Int.tmod (m : Int) 2 = (p : Int) := by rw [hp]; rfl
      obtain ⟨s2, hs2⟩ : ∃ s2, s2 = s + lwt m x := ⟨_, rfl⟩
      have hl20 : lwt m x ≤ 20 := lwt_le (by omega)
      have HV : Hid (s2 = dsu (fun i => lwt (n - i) (d i)) (r + 1)) := by
        show s2 = dsu _ r + lwt (n - r) (d r)
        rw [hs2, HG.out.1, hm, hx]
      have hs2b : s2 ≤ 2000 := by
        rw [HV.out]
        have := dsu_le (f := fun i => lwt (n - i) (d i)) (B := 20) (r + 1) (fun i hi => lwt_le (by have := HF.out.2.1 i (by omega); omega))
        omega
      by_cases e : m % 2 = 1
      · have hz : ((p : Int) == 1) = true := by rw [hp, e]; rfl
        obtain ⟨x2, hx2⟩ : ∃ x2, x2 = x * 2 := ⟨_, rfl⟩
        have wx : IntKind.i64.wrap ((x : Int) * 2) = (x2 : Int) := wrpT (by omega) (by omega)
        obtain ⟨q, hq⟩ : ∃ q, q = x2 / 10 := ⟨_, rfl⟩
        have wq : Int.tdiv (x2 : Int) 10 = (q : Int) := by rw [hq]; rfl
        obtain ⟨t, ht⟩ : ∃ t, t = x2 % 10 := ⟨_, rfl⟩
        have wt : Int.tmod (x2 : Int) 10 = (t : Int) := by rw [ht]; rfl
        obtain ⟨u, hu⟩ : ∃ u, u = q + t := ⟨_, rfl⟩
        have wu : IntKind.i64.wrap ((q : Int) + (t : Int)) = (u : Int) := wrpT (by omega) (by omega)
        have hlw : lwt m x = u := by unfold lwt; rw [if_pos e, hu, hq, ht, hx2, Nat.mul_comm]
        have ws : IntKind.i64.wrap ((s : Int) + (u : Int)) = (s2 : Int) := wrpT (by omega) (by omega)
        have hqb : q ≤ 20 := by omega
        clear hx hxz hm hp e hx2 hq ht hu hlw hs2 hl20
        go_wp2
        go_roundw
        case rel => exact ⟨r + 1, s2, by omega, hs2b, by first | rfl | go_num, by go_num, HV.out, by first | rfl | trivial⟩
        case measure => simp [intOf]; omega
      · have hz : ((p : Int) == 1) = false := by rw [beq_eq_false_iff_ne]; omega
        obtain ⟨q, hq⟩ : ∃ q, q = x / 10 := ⟨_, rfl⟩
        have wq : Int.tdiv (x : Int) 10 = (q : Int) := by rw [hq]; rfl
        obtain ⟨t, ht⟩ : ∃ t, t = x % 10 := ⟨_, rfl⟩
        have wt : Int.tmod (x : Int) 10 = (t : Int) := by rw [ht]; rfl
        obtain ⟨u, hu⟩ : ∃ u, u = q + t := ⟨_, rfl⟩
        have wu : IntKind.i64.wrap ((q : Int) + (t : Int)) = (u : Int) := wrpT (by omega) (by omega)
        have hlw : lwt m x = u := by unfold lwt; rw [if_neg e, hu, hq, ht]
        have ws : IntKind.i64.wrap ((s : Int) + (u : Int)) = (s2 : Int) := wrpT (by omega) (by omega)
        have hqb : q ≤ 20 := by omega
        clear hx hxz hm hp e hq ht hu hlw hs2 hl20
        go_wp2
        go_roundw
        case rel => exact ⟨r + 1, s2, by omega, hs2b, by first | rfl | go_num, by go_num, HV.out, by first | rfl | trivial⟩
        case measure => simp [intOf]; omega
    · have hib : ¬ (r : Int) < (n : Int) := by omega
      have hre : r = n := by omega
      have HV : Hid (toT s = sgL n d) := by show toT s = sgL n d; rw [HG.out.1, hre]; rfl
      have HC : Hid (Calls Try.prog 102 #[.int .i64 (s : Nat)] wr fun e w' => e = .returned (.int .i64 (toT s : Nat)) ∧ w' = wr) := toTen_any wr
      obtain ⟨R, hR⟩ : ∃ R, R = toT s := ⟨_, rfl⟩
      rw [← hR] at HC HV
      clear hre hR
      go_wp2_with (go_at_call 102; refine HC.out.mono ?_; rintro e w' ⟨rfl, hw⟩; have hw := hw.symm; subst hw)
      go_ret
      exact ⟨by rw [HV.out]; rfl, HF.out.2.2⟩
end Go.Proofs.Ytonjkpakbmbafaa
