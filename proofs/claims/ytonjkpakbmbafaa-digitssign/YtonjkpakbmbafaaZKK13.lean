/- Signs that check: the reference, the group of ten; Checks of Luhn. -/
import Derived.Test.YtonjkpakbmbafaaZKK7
namespace Go.Proofs.Ytonjkpakbmbafaa
open Go.RowKit

theorem int_beq (a b : Nat) : ((a : Int) == (b : Int)) = (a == b) := by
  by_cases h : a = b
  · subst h; rw [beq_self_eq_true, beq_self_eq_true]
  · rw [beq_eq_false_iff_ne.2 h, beq_eq_false_iff_ne.2 (by omega)]

set_option maxHeartbeats 4000000 in
set_option maxRecDepth 100000 in
theorem rgroup_any {a b : Nat} (ha : a < 10) (hb : b < 10) (w : World) :
    Calls Try.prog 78 #[.int .i64 (a : Nat), .int .i64 (b : Nat)] w fun e w' => e = .returned (.int .i64 (dih a b : Nat)) ∧ w' = w := by
  obtain ⟨R, hR⟩ : ∃ R, R = dih a b := ⟨_, rfl⟩
  rw [← hR]
  unfold dih at hR
  by_cases h1 : a < 5
  · have i1 : (a : Int) < 5 := by omega
    obtain ⟨s, hs⟩ : ∃ s, s = a + b := ⟨_, rfl⟩
    have ws : IntKind.i64.wrap ((a : Int) + (b : Int)) = (s : Int) := wrpT (by omega) (by omega)
    obtain ⟨m, hm⟩ : ∃ m, m = s % 5 := ⟨_, rfl⟩
    have wm : Int.tmod (s : Int) 5 = (m : Int) := by rw [hm]; rfl
    rw [if_pos h1] at hR
    by_cases h2 : b < 5
    · have i2 : (b : Int) < 5 := by omega
      have HV : Hid (R = m) := by rw [if_pos h2] at hR; show R = m; omega
      clear hs hm hR
      go_enter Try.func78, Try.ntmps78
      go_wp2
      go_ret
      exact ⟨by rw [HV.out]; rfl, rfl⟩
    · have i2 : ¬ (b : Int) < 5 := by omega
      have HV : Hid (R = m + 5) := by rw [if_neg h2] at hR; show R = m + 5; omega
      have wR : IntKind.i64.wrap ((m : Int) + 5) = (R : Int) := wrpT (by rw [HV.out]; omega) (by rw [HV.out]; omega)
      clear hs hm hR
      go_enter Try.func78, Try.ntmps78
      go_wp2
      go_ret
      exact ⟨rfl, rfl⟩
  · have i1 : ¬ (a : Int) < 5 := by omega
    rw [if_neg h1] at hR
    by_cases h2 : b < 5
    · have i2 : (b : Int) < 5 := by omega
      rw [if_pos h2] at hR
      obtain ⟨s, hs⟩ : ∃ s, s = a - b := ⟨_, rfl⟩
      have ws : IntKind.i64.wrap ((a : Int) - (b : Int)) = (s : Int) := wrpT (by omega) (by omega)
      obtain ⟨m, hm⟩ : ∃ m, m = s % 5 := ⟨_, rfl⟩
      have wm : Int.tmod (s : Int) 5 = (m : Int) := by rw [hm]; rfl
      have HV : Hid (R = m + 5) := by show R = m + 5; omega
      have wR : IntKind.i64.wrap ((m : Int) + 5) = (R : Int) := wrpT (by rw [HV.out]; omega) (by rw [HV.out]; omega)
      clear hs hm hR
      go_enter Try.func78, Try.ntmps78
      go_wp2
      go_ret
      exact ⟨rfl, rfl⟩
    · have i2 : ¬ (b : Int) < 5 := by omega
      rw [if_neg h2] at hR
      obtain ⟨s, hs⟩ : ∃ s : Int, s = (a : Int) - (b : Int) := ⟨_, rfl⟩
      have ws : IntKind.i64.wrap ((a : Int) - (b : Int)) = s := by rw [IntWalk.i64_left, ← hs]; exact IntWalk.wrap64_in _ (by omega)
      obtain ⟨s2, hs2⟩ : ∃ s2, s2 = a + 5 - b := ⟨_, rfl⟩
      have ws2 : IntKind.i64.wrap (s + 5) = (s2 : Int) := wrpT (by omega) (by omega)
      have wm : Int.tmod (s2 : Int) 5 = (R : Int) := by rw [hR, ← hs2]; rfl
      clear hs hs2 hR
      go_enter Try.func78, Try.ntmps78
      go_wp2
      go_ret
      exact ⟨rfl, rfl⟩

set_option maxHeartbeats 8000000 in
set_option maxRecDepth 100000 in
theorem checks_1 {ao : Option Addr} {n ca : Nat} {d : Nat → Nat} {w : World} (hS : SlZ ao n (dgz d) w) (hd : ∀ j, j < n → d j ≤ 10) (hn : n ≤ 65) :
    Calls Try.prog 55 #[.int .i64 1, .slice ao n ca] w fun e w' => e = .returned (.bool (ckL n d)) ∧ Below w.heap.size w w' := by
  have HF : Hid (SlZ ao n (dgz d) w ∧ (∀ j, j < n → d j ≤ 10)) := ⟨hS, hd⟩
  clear hS hd
  go_enter Try.func55, Try.ntmps55
  go_wp2
  go_loopw [6, 7, 8] (fun vs vi _ wr => ∃ (r s : Nat), r ≤ n ∧ s ≤ 2000 ∧ vs = .int .i64 (s : Nat) ∧ vi = .int .i64 (r : Nat) ∧ Hid (s = dsu (fun i => lwt i (d (n - 1 - i))) r ∧ wr = w)) (fun _ vi _ _ => n - (intOf vi).toNat)
  case atStart => exact ⟨0, 0, by omega, by omega, rfl, rfl, rfl, rfl⟩
  case round =>
    obtain ⟨r, s, hr, hs, rfl, rfl, HG⟩ := hrel
    rename World => wr
    have hw : wr = w := HG.out.2
    subst hw
    by_cases hlt : r < n
    · have hib : (r : Int) < (n : Int) := by omega
      obtain ⟨n1, hn1⟩ : ∃ n1, n1 = n - 1 := ⟨_, rfl⟩
      have wn1 : IntKind.i64.wrap ((n : Int) - 1) = (n1 : Int) := wrpT (by omega) (by omega)
      obtain ⟨j, hj⟩ : ∃ j, j = n - 1 - r := ⟨_, rfl⟩
      have wj : IntKind.i64.wrap ((n1 : Int) - (r : Int)) = (j : Int) := wrpT (by omega) (by omega)
      have hjn : j < n := by omega
      have hjb : (j : Int) < (n : Int) := by omega
      have hjb0 : (0 : Int) ≤ (j : Int) := by omega
      obtain ⟨ba, oa, hao, hca⟩ := HF.out.1 j hjn
      subst hao
      obtain ⟨x, hx⟩ : ∃ x, x = d j := ⟨_, rfl⟩
      have hx10 : x ≤ 10 := by rw [hx]; exact HF.out.2 j hjn
      have hxz : dgz d j = (x : Int) := by rw [hx]; rfl
      rw [hxz] at hca
      obtain ⟨p, hp⟩ : ∃ p, p = r % 2 := ⟨_, rfl⟩
      have wp : Int.tmod (r : Int) 2 = (p : Int) := by rw [hp]; rfl
      obtain ⟨s2, hs2⟩ : ∃ s2, s2 = s + lwt r x := ⟨_, rfl⟩
      have hl20 : lwt r x ≤ 20 := lwt_le (by omega)
      have HV : Hid (s2 = dsu (fun i => lwt i (d (n - 1 - i))) (r + 1)) := by
        show s2 = dsu _ r + lwt r (d (n - 1 - r))
        rw [hs2, HG.out.1, ← hj, hx]
      have hs2b : s2 ≤ 2000 := by
        rw [HV.out]
        have := dsu_le (f := fun i => lwt i (d (n - 1 - i))) (B := 20) (r + 1) (fun i hi => lwt_le (HF.out.2 _ (by omega)))
        omega
      by_cases e : r % 2 = 1
      · have hz : ((p : Int) == 1) = true := by rw [hp, e]; rfl
        obtain ⟨x2, hx2⟩ : ∃ x2, x2 = 2 * x := ⟨_, rfl⟩
        have wx : IntKind.i64.wrap (2 * (x : Int)) = (x2 : Int) := wrpT (by omega) (by omega)
        obtain ⟨q, hq⟩ : ∃ q, q = x2 / 10 := ⟨_, rfl⟩
        have wq : Int.tdiv (x2 : Int) 10 = (q : Int) := by rw [hq]; rfl
        obtain ⟨t, ht⟩ : ∃ t, t = x2 % 10 := ⟨_, rfl⟩
        have wt : Int.tmod (x2 : Int) 10 = (t : Int) := by rw [ht]; rfl
        have hlw : lwt r x = q + t := by unfold lwt; rw [if_pos e, hq, ht, hx2]
        obtain ⟨u, hu⟩ : ∃ u, u = s + q := ⟨_, rfl⟩
        have wu : IntKind.i64.wrap ((s : Int) + (q : Int)) = (u : Int) := wrpT (by omega) (by omega)
        have ws : IntKind.i64.wrap ((u : Int) + (t : Int)) = (s2 : Int) := wrpT (by omega) (by omega)
        have hqb : q ≤ 20 := by omega
        clear hx hxz hp e hx2 hq ht hu hlw hs2 hl20 hn1 hj
        go_wp2
        go_roundw
        case rel => exact ⟨r + 1, s2, by omega, hs2b, by first | rfl | go_num, by first | rfl | go_num, HV.out, by first | rfl | trivial⟩
        case measure => simp [intOf]; omega
      · have hz : ((p : Int) == 1) = false := by rw [beq_eq_false_iff_ne]; omega
        obtain ⟨q, hq⟩ : ∃ q, q = x / 10 := ⟨_, rfl⟩
        have wq : Int.tdiv (x : Int) 10 = (q : Int) := by rw [hq]; rfl
        obtain ⟨t, ht⟩ : ∃ t, t = x % 10 := ⟨_, rfl⟩
        have wt : Int.tmod (x : Int) 10 = (t : Int) := by rw [ht]; rfl
        have hlw : lwt r x = q + t := by unfold lwt; rw [if_neg e, hq, ht]
        obtain ⟨u, hu⟩ : ∃ u, u = s + q := ⟨_, rfl⟩
        have wu : IntKind.i64.wrap ((s : Int) + (q : Int)) = (u : Int) := wrpT (by omega) (by omega)
        have ws : IntKind.i64.wrap ((u : Int) + (t : Int)) = (s2 : Int) := wrpT (by omega) (by omega)
        have hqb : q ≤ 20 := by omega
        clear hx hxz hp e hq ht hu hlw hs2 hl20 hn1 hj
        go_wp2
        go_roundw
        case rel => exact ⟨r + 1, s2, by omega, hs2b, by first | rfl | go_num, by first | rfl | go_num, HV.out, by first | rfl | trivial⟩
        case measure => simp [intOf]; omega
    · have hib : ¬ (r : Int) < (n : Int) := by omega
      have hre : r = n := by omega
      obtain ⟨R, hR⟩ : ∃ R, R = s % 10 := ⟨_, rfl⟩
      have wR : Int.tmod (s : Int) 10 = (R : Int) := by rw [hR]; rfl
      have hsn : s = dsu (fun i => lwt i (d (n - 1 - i))) n := by rw [HG.out.1, hre]
      have HV : Hid (((R : Int) == 0) = ckL n d) := by
        show _ = ckL n d
        unfold ckL
        rw [← hsn, ← hR]; exact int_beq R 0
      clear hre hR hsn
      go_wp2
      go_ret
      exact ⟨by rw [← HV.out]; rfl, Below.refl _ _⟩
end Go.Proofs.Ytonjkpakbmbafaa
