/- Gray's lists: which sizes may be (digits.Check, product, behind; the reference's SizesMay). -/
import Derived.Test.YthkjaiihlphgfabZS32
import Derived.Test.YthkjaiihlphgfabZL10
import Derived.Test.YthkjaiihlphgfabZR5
namespace Go.Proofs.Ythkjaiihlphgfab
open Go.RowKit Go.Sort

/-- Sizes as numbers. -/
def szB (z : Nat → Int) : Nat → Nat := fun j => (z j).toNat
/-- Are all sizes sizes? -/
def szOk (z : Nat → Int) : Nat → Bool
  | 0 => true
  | i + 1 => szOk z i && decide (2 ≤ z i ∧ z i ≤ 10)
theorem szOk_at {z : Nat → Int} : ∀ n, szOk z n = true → ∀ j, j < n → 2 ≤ z j ∧ z j ≤ 10
  | 0, _, j, hj => absurd hj (by omega)
  | n + 1, h, j, hj => by
    have h : (szOk z n && decide (2 ≤ z n ∧ z n ≤ 10)) = true := h
    rw [Bool.and_eq_true] at h
    by_cases e : j = n
    · subst e; exact of_decide_eq_true h.2
    · exact szOk_at n h.1 j (by omega)
theorem szOk_no {z : Nat → Int} {i : Nat} (h : ¬ (2 ≤ z i ∧ z i ≤ 10)) : ∀ n, i < n → szOk z n = false
  | 0, hi => absurd hi (by omega)
  | n + 1, hi => by
    show (szOk z n && decide (2 ≤ z n ∧ z n ≤ 10)) = false
    by_cases e : i = n
    · subst e; rw [decide_eq_false h, Bool.and_false]
    · rw [szOk_no h n (by omega), Bool.false_and]
theorem szOk_yes {z : Nat → Int} {i : Nat} (h0 : szOk z i = true) (h : 2 ≤ z i ∧ z i ≤ 10) : szOk z (i + 1) = true := by
  show (szOk z i && decide (2 ≤ z i ∧ z i ≤ 10)) = true
  rw [h0, decide_eq_true h]; rfl
theorem szB_at {z : Nat → Int} {n : Nat} (h : szOk z n = true) : ∀ j, j < n → 2 ≤ szB z j ∧ szB z j ≤ 10 := fun j hj => by
  have := szOk_at n h j hj
  unfold szB
  omega
/-- What is said of sizes. -/
def gchk (n : Nat) (z : Nat → Int) : Int := if n < 1 ∨ 10 < n then 6 else if szOk z n = true then (if 1024 < prd n (szB z) then 4 else 0) else 2
theorem gchk_ok {n : Nat} {z : Nat → Int} (h : gchk n z = 0) : 1 ≤ n ∧ n ≤ 10 ∧ szOk z n = true ∧ prd n (szB z) ≤ 1024 := by
  unfold gchk at h
  split at h
  · cases h
  · split at h
    · split at h
      · cases h
      · exact ⟨by omega, by omega, by assumption, by omega⟩
    · cases h
theorem prd_big {n : Nat} {b : Nat → Nat} (hn : n ≤ 10) (h : ∀ j, j < n → b j ≤ 10) : prd n b ≤ 10000000000 :=
  Nat.le_trans (prd_ten n b h) (Nat.pow_le_pow_right (by omega) hn)

set_option maxHeartbeats 4000000 in
set_option maxRecDepth 100000 in
theorem dprod_any {ao : Option Addr} {n ca : Nat} {z : Nat → Int} {w : World} (hS : SlZ ao n z w) (hn : n ≤ 10) (hz : szOk z n = true) :
    Calls Try.prog 29 #[.slice ao n ca] w fun e w' => e = .returned (.int .i64 (prd n (szB z) : Nat)) ∧ w' = w := by
  have HF : Hid (SlZ ao n z w ∧ szOk z n = true) := ⟨hS, hz⟩
  clear hS hz
  go_enter Try.func29, Try.ntmps29
  go_wp2
  go_loopw [3, 8] (fun vm vi wr => ∃ (r m : Nat), r ≤ n ∧ vm = .int .i64 (m : Nat) ∧ vi = .int .i64 r ∧ Hid (m = prd r (szB z) ∧ wr = w)) (fun _ vi _ => n - (intOf vi).toNat)
  case atStart => exact ⟨0, 1, by omega, rfl, rfl, rfl, rfl⟩
  case round =>
    obtain ⟨r, m, hr, rfl, rfl, HG⟩ := hrel
    rename World => wr
    by_cases hlt : r < n
    · have hib : (r : Int) < (n : Int) := by omega
      obtain ⟨ba, oa, hao, hca⟩ := HF.out.1 r hlt
      rw [← HG.out.2] at hca
      subst hao
      obtain ⟨x, hx⟩ : ∃ x, x = szB z r := ⟨_, rfl⟩
      have hzr := szOk_at n HF.out.2 r hlt
      have hxz : z r = (x : Int) := by rw [hx]; unfold szB; omega
      rw [hxz] at hca
      obtain ⟨m2, hm2⟩ : ∃ m2, m2 = m * x := ⟨_, rfl⟩
      have HV : Hid (m2 = prd (r + 1) (szB z) ∧ wr = w) := ⟨by rw [prd_last, hm2, HG.out.1, hx], HG.out.2⟩
      have hb2 : m2 ≤ 10000000000 := by rw [HV.out.1]; exact prd_big (by omega) fun j hj => (szB_at HF.out.2 j (by omega)).2
      have hw2 : IntKind.i64.wrap ((m : Int) * (x : Int)) = (m2 : Int) := wrap_to (by rw [hm2]; simp) (by omega)
      clear hx hxz hzr hm2
      go_wp2
      go_roundw
      case rel => exact ⟨r + 1, m2, by omega, by first | rfl | go_num, by go_num, HV.out⟩
      case measure => simp [intOf]; omega
    · have hib : ¬ (r : Int) < (n : Int) := by omega
      have hre : n = r := by omega
      subst hre
      go_wp2
      go_ret
      exact ⟨by rw [HG.out.1]; rfl, HG.out.2⟩

set_option maxHeartbeats 4000000 in
set_option maxRecDepth 100000 in
theorem behind_any {v k P : Nat} (hk : k < P) (hP : P ≤ 1000000) (w : World) :
    Calls Try.prog 30 #[.int .i64 (v : Nat), .int .i64 (k : Nat), .int .i64 (P : Nat)] w fun e w' => e = .returned (.int .i64 (bhd v k P : Nat)) ∧ w' = w := by
  obtain ⟨R, hR⟩ : ∃ R, R = bhd v k P := ⟨_, rfl⟩
  rw [← hR]
  obtain ⟨md, hmd⟩ : ∃ md : Nat, md = v % 2 := ⟨_, rfl⟩
  have h1 : Int.tmod (v : Int) 2 = (md : Int) := by rw [hmd]; rfl
  by_cases e : v % 2 = 0
  · have hz : ((md : Int) == 0) = true := by rw [hmd, e]; rfl
    have HV : Hid (R = k) := by unfold bhd at hR; rw [if_pos e] at hR; exact hR
    clear e hR hmd
    go_enter Try.func30, Try.ntmps30
    go_wp2
    go_ret
    exact ⟨by rw [HV.out]; rfl, rfl⟩
  · have hz : ((md : Int) == 0) = false := by rw [beq_eq_false_iff_ne]; omega
    have HV : Hid (R = P - 1 - k) := by unfold bhd at hR; rw [if_neg e] at hR; exact hR
    obtain ⟨P1, hP1⟩ : ∃ P1, P1 = P - 1 := ⟨_, rfl⟩
    have w1 : IntKind.i64.wrap ((P : Int) - 1) = (P1 : Int) := wrap_to (by omega) (by omega)
    have w2 : IntKind.i64.wrap ((P1 : Int) - (k : Int)) = (R : Int) := wrap_to (by rw [HV.out]; omega) (by rw [HV.out]; omega)
    clear e hR hmd hP1
    go_enter Try.func30, Try.ntmps30
    go_wp2
    go_ret
    exact ⟨rfl, rfl⟩

set_option maxHeartbeats 4000000 in
set_option maxRecDepth 100000 in
theorem dcheck_any {ao : Option Addr} {n ca : Nat} {z : Nat → Int} {w : World} (hS : SlZ ao n z w) (hn : n ≤ 1000000) :
    Calls Try.prog 28 #[.slice ao n ca] w fun e w' => e = .returned (.int .i64 (gchk n z)) ∧ w' = w := by
  obtain ⟨E, hE⟩ : ∃ E, E = gchk n z := ⟨_, rfl⟩
  rw [← hE]
  by_cases h1 : n < 1
  · have hib : (n : Int) < 1 := by omega
    have HV : Hid (E = 6) := by show E = 6; rw [hE]; unfold gchk; rw [if_pos (Or.inl h1)]
    clear hE h1
    go_enter Try.func28, Try.ntmps28
    go_wp2
    go_ret
    exact ⟨by rw [HV.out]; rfl, rfl⟩
  have i1 : ¬ (n : Int) < 1 := by omega
  by_cases h2 : 10 < n
  · have hib : (10 : Int) < (n : Int) := by omega
    have HV : Hid (E = 6) := by show E = 6; rw [hE]; unfold gchk; rw [if_pos (Or.inr h2)]
    clear hE h1 h2
    go_enter Try.func28, Try.ntmps28
    go_wp2
    go_ret
    exact ⟨by rw [HV.out]; rfl, rfl⟩
  have i2 : ¬ (10 : Int) < (n : Int) := by omega
  have hun : gchk n z = if szOk z n = true then (if 1024 < prd n (szB z) then 4 else 0) else 2 := by unfold gchk; rw [if_neg (by omega)]
  have HF : Hid (SlZ ao n z w ∧ E = if szOk z n = true then (if 1024 < prd n (szB z) then 4 else 0) else 2) := ⟨hS, by rw [hE, hun]⟩
  clear hS hE hun h1
  go_enter Try.func28, Try.ntmps28
  go_wp2
  go_loopw [15] (fun vi wr => ∃ (r : Nat), r ≤ n ∧ vi = .int .i64 r ∧ Hid (szOk z r = true ∧ wr = w)) (fun vi _ => n - (intOf vi).toNat)
  case atStart => exact ⟨0, by omega, rfl, rfl, rfl⟩
  case round =>
    obtain ⟨r, hr, rfl, HG⟩ := hrel
    rename World => wr
    by_cases hlt : r < n
    · have hib : (r : Int) < (n : Int) := by omega
      obtain ⟨ba, oa, hao, hca⟩ := HF.out.1 r hlt
      rw [← HG.out.2] at hca
      subst hao
      obtain ⟨x, hx⟩ : ∃ x, x = z r := ⟨_, rfl⟩
      rw [← hx] at hca
      by_cases e1 : x < 2
      · have HV : Hid (E = 2) := by show E = 2; rw [HF.out.2, szOk_no (i := r) (by rw [← hx]; omega) n hlt]; rfl
        clear hx
        go_wp2
        go_ret
        exact ⟨by rw [HV.out]; rfl, HG.out.2⟩
      · by_cases e2 : 10 < x
        · have HV : Hid (E = 2) := by show E = 2; rw [HF.out.2, szOk_no (i := r) (by rw [← hx]; omega) n hlt]; rfl
          clear hx
          go_wp2
          go_ret
          exact ⟨by rw [HV.out]; rfl, HG.out.2⟩
        · have HV : Hid (szOk z (r + 1) = true) := szOk_yes HG.out.1 (by rw [← hx]; omega)
          clear hx
          go_wp2
          go_roundw
          case rel => exact ⟨r + 1, by omega, by go_num, HV.out, HG.out.2⟩
          case measure => simp [intOf]; omega
    · have hib : ¬ (r : Int) < (n : Int) := by omega
      have hre : n = r := by omega
      subst hre
      have HZ : Hid (szOk z n = true) := HG.out.1
      obtain ⟨p, hp⟩ : ∃ p, p = prd n (szB z) := ⟨_, rfl⟩
      have HP : Hid (Calls Try.prog 29 #[.slice ao n ca] w fun e w' => e = .returned (.int .i64 (p : Nat)) ∧ w' = w) := by rw [hp]; exact dprod_any HF.out.1 (by omega) HZ.out
      have HE : Hid (E = if 1024 < p then 4 else 0) := by show E = if 1024 < p then 4 else 0; rw [HF.out.2, if_pos HZ.out, hp]
      have hw : wr = w := HG.out.2
      subst hw
      clear hp
      by_cases e : 1024 < p
      · have hz : (1024 : Int) < (p : Int) := by omega
        have HV : Hid (E = 4) := by show E = 4; rw [HE.out, if_pos e]
        clear e
        go_wp2_with (go_at_call 29; refine HP.out.mono ?_; rintro e w' ⟨rfl, hw⟩; have hw := hw.symm; subst hw)
        go_ret
        exact ⟨by rw [HV.out]; rfl, rfl⟩
      · have hz : ¬ (1024 : Int) < (p : Int) := by omega
        have HV : Hid (E = 0) := by show E = 0; rw [HE.out, if_neg e]
        clear e
        go_wp2_with (go_at_call 29; refine HP.out.mono ?_; rintro e w' ⟨rfl, hw⟩; have hw := hw.symm; subst hw)
        go_ret
        exact ⟨by rw [HV.out]; rfl, rfl⟩
end Go.Proofs.Ythkjaiihlphgfab
