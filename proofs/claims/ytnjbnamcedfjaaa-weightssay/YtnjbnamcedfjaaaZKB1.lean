/- Texts of ours, one behind the other: KB1 S21. -/
import Derived.Test.YtnjbnamcedfjaaaZKA7
import Derived.Test.YtnjbnamcedfjaaaZS20
/- Weights: Griesmer's bound, both sides (printed by make/kb1.py). -/
namespace Go.Proofs.Ytnjbnamcedfjaaa
open Go.RowKit Go.Sort

def gd (q d : Nat) : Nat → Nat
  | 0 => d
  | i + 1 => (gd q d i + q - 1) / q
def gs (q d : Nat) : Nat → Nat
  | 0 => 0
  | i + 1 => gs q d i + gd q d i
theorem up_le {x q : Nat} (hq : 1 ≤ q) : (x + q - 1) / q ≤ x := by
  by_cases h : x = 0
  · subst h
    rw [Nat.div_eq_of_lt (by omega)]; omega
  · have h1 : x * 1 ≤ x * q := Nat.mul_le_mul_left x hq
    have h2 : x + q - 1 < (x + 1) * q := by
      have : 1 * q ≤ x * q := Nat.mul_le_mul_right q (by omega)
      rw [Nat.add_mul]
      omega
    have := (Nat.div_lt_iff_lt_mul (show 0 < q by omega)).2 h2
    omega
theorem gd_le {q d : Nat} (hq : 1 ≤ q) : ∀ i, gd q d i ≤ d
  | 0 => Nat.le_refl _
  | i + 1 => Nat.le_trans (up_le hq) (gd_le hq i)
theorem gs_le {q d : Nat} (hq : 1 ≤ q) : ∀ i, gs q d i ≤ i * d
  | 0 => by show 0 ≤ _; omega
  | i + 1 => by
    have h1 := gs_le (d := d) hq i
    have h2 := gd_le (d := d) hq i
    show gs q d i + gd q d i ≤ _
    rw [Nat.add_mul]
    omega

set_option maxHeartbeats 1000000 in
theorem roundUp_any (a b : Nat) (hb : 1 ≤ b) (ha2 : a ≤ 1152921504606846976) (hb2 : b ≤ 1152921504606846976) (w : World) :
    Calls Try.prog 81 #[.int .i64 (a : Nat), .int .i64 (b : Nat)] w fun e w' => e = .returned (.int .i64 ((a + b - 1) / b : Nat)) ∧ w' = w := by
  obtain ⟨x, hx⟩ : ∃ x, x = (a + b - 1) / b := ⟨_, rfl⟩
  have hq : Int.tdiv ((a : Int) + (b : Int) - 1) (b : Int) = (x : Int) := by
    rw [show (a : Int) + (b : Int) - 1 = ((a + b - 1 : Nat) : Int) by omega, hx]
    rfl
  have hne : (b : Int) ≠ 0 := by omega
  have hx2 : x ≤ 2305843009213693952 := by rw [hx]; exact Nat.le_trans (Nat.div_le_self _ _) (by omega)
  rw [← hx]
  clear hx
  go_enter Try.func81, Try.ntmps81
  go_wp2
  go_ret
  exact ⟨by first | rfl | simp [hq], rfl⟩

set_option maxHeartbeats 1000000 in
theorem rUp_any (a b : Nat) (hb : 1 ≤ b) (ha2 : a ≤ 1152921504606846976) (hb2 : b ≤ 1152921504606846976) (w : World) :
    Calls Try.prog 39 #[.int .i64 (a : Nat), .int .i64 (b : Nat)] w fun e w' => e = .returned (.int .i64 ((a + b - 1) / b : Nat)) ∧ w' = w := by
  obtain ⟨x, hx⟩ : ∃ x, x = (a + b - 1) / b := ⟨_, rfl⟩
  have hq : Int.tdiv ((a : Int) + (b : Int) - 1) (b : Int) = (x : Int) := by
    rw [show (a : Int) + (b : Int) - 1 = ((a + b - 1 : Nat) : Int) by omega, hx]
    rfl
  have hne : (b : Int) ≠ 0 := by omega
  have hx2 : x ≤ 2305843009213693952 := by rw [hx]; exact Nat.le_trans (Nat.div_le_self _ _) (by omega)
  rw [← hx]
  clear hx
  go_enter Try.func39, Try.ntmps39
  go_wp2
  go_ret
  exact ⟨by first | rfl | simp [hq], rfl⟩

set_option maxHeartbeats 2000000 in
set_option maxRecDepth 100000 in
theorem gri_none (q : Int) (h : ∀ D ∈ fieldsL, (D.q : Int) ≠ q) (k d : Int) (w : World) :
    Calls Try.prog 46 #[.int .i64 q, .int .i64 k, .int .i64 d] w fun e w' => e = .returned (.tuple #[.int .i64 0, .int .i64 1]) ∧ Below w.heap.size w w' := by
  have HN : Hid (∀ D ∈ fieldsL, (D.q : Int) ≠ q) := h
  clear h
  go_enter Try.func46, Try.ntmps46
  go_wp2_with fail
  refine (new_none q w HN.out).mono ?_
  rintro e w' ⟨rfl, hw⟩
  have hw := hw.symm
  subst hw
  go_wp2
  go_ret2
  exact ⟨rfl, Below.refl _ _⟩

set_option maxHeartbeats 2000000 in
set_option maxRecDepth 100000 in
theorem gri_lim0 {D : FD} (hD : D ∈ fieldsL) (k d : Int) (h1 : k < 1) (w : World) :
    Calls Try.prog 46 #[.int .i64 D.q, .int .i64 k, .int .i64 d] w fun e w' => e = .returned (.tuple #[.int .i64 0, .int .i64 4]) ∧ Below w.heap.size w w' := by
  have HD : Hid (D ∈ fieldsL) := hD
  clear hD
  go_enter Try.func46, Try.ntmps46
  go_wp2_with fail
  refine (new_any HD.out w).mono ?_
  rintro e w1 ⟨F, T, g, rfl, _, _, _, hb1⟩
  have H1 : Hid (Below w.heap.size w w1) := hb1
  clear hb1
  go_wp2
  go_ret2
  exact ⟨rfl, H1.out⟩

set_option maxHeartbeats 2000000 in
set_option maxRecDepth 100000 in
theorem gri_lim1 {D : FD} (hD : D ∈ fieldsL) (k d : Int) (h1 : ¬ k < 1) (h2 : 64 < k) (w : World) :
    Calls Try.prog 46 #[.int .i64 D.q, .int .i64 k, .int .i64 d] w fun e w' => e = .returned (.tuple #[.int .i64 0, .int .i64 4]) ∧ Below w.heap.size w w' := by
  have h2b : k > 64 := h2
  have HD : Hid (D ∈ fieldsL) := hD
  clear hD
  go_enter Try.func46, Try.ntmps46
  go_wp2_with fail
  refine (new_any HD.out w).mono ?_
  rintro e w1 ⟨F, T, g, rfl, _, _, _, hb1⟩
  have H1 : Hid (Below w.heap.size w w1) := hb1
  clear hb1
  go_wp2
  go_ret2
  exact ⟨rfl, H1.out⟩

set_option maxHeartbeats 2000000 in
set_option maxRecDepth 100000 in
theorem gri_lim2 {D : FD} (hD : D ∈ fieldsL) (k d : Int) (h1 : ¬ k < 1) (h2 : ¬ 64 < k) (h3 : d < 1) (w : World) :
    Calls Try.prog 46 #[.int .i64 D.q, .int .i64 k, .int .i64 d] w fun e w' => e = .returned (.tuple #[.int .i64 0, .int .i64 4]) ∧ Below w.heap.size w w' := by
  have h2b : ¬ k > 64 := h2
  have HD : Hid (D ∈ fieldsL) := hD
  clear hD
  go_enter Try.func46, Try.ntmps46
  go_wp2_with fail
  refine (new_any HD.out w).mono ?_
  rintro e w1 ⟨F, T, g, rfl, _, _, _, hb1⟩
  have H1 : Hid (Below w.heap.size w w1) := hb1
  clear hb1
  go_wp2
  go_ret2
  exact ⟨rfl, H1.out⟩

set_option maxHeartbeats 2000000 in
set_option maxRecDepth 100000 in
theorem gri_lim3 {D : FD} (hD : D ∈ fieldsL) (k d : Int) (h1 : ¬ k < 1) (h2 : ¬ 64 < k) (h3 : ¬ d < 1) (h4 : 64 < d) (w : World) :
    Calls Try.prog 46 #[.int .i64 D.q, .int .i64 k, .int .i64 d] w fun e w' => e = .returned (.tuple #[.int .i64 0, .int .i64 4]) ∧ Below w.heap.size w w' := by
  have h2b : ¬ k > 64 := h2
  have h4b : d > 64 := h4
  have HD : Hid (D ∈ fieldsL) := hD
  clear hD
  go_enter Try.func46, Try.ntmps46
  go_wp2_with fail
  refine (new_any HD.out w).mono ?_
  rintro e w1 ⟨F, T, g, rfl, _, _, _, hb1⟩
  have H1 : Hid (Below w.heap.size w w1) := hb1
  clear hb1
  go_wp2
  go_ret2
  exact ⟨rfl, H1.out⟩

set_option maxHeartbeats 2000000 in
set_option maxRecDepth 100000 in
theorem gri_ok {D : FD} (hD : D ∈ fieldsL) (k d : Nat) (hk : 1 ≤ k) (hk2 : k ≤ 64) (hd : 1 ≤ d) (hd2 : d ≤ 64) (w : World) :
    Calls Try.prog 46 #[.int .i64 D.q, .int .i64 (k : Nat), .int .i64 (d : Nat)] w fun e w' => e = .returned (.tuple #[.int .i64 (gs D.q d k : Nat), .int .i64 0]) ∧ Below w.heap.size w w' := by
  have h1 : ¬ (k : Int) < 1 := by omega
  have h2 : ¬ (64 : Int) < (k : Int) := by omega
  have h2b : ¬ (k : Int) > 64 := by omega
  have h3 : ¬ (d : Int) < 1 := by omega
  have h4 : ¬ (64 : Int) < (d : Int) := by omega
  have h4b : ¬ (d : Int) > 64 := by omega
  have hq2 := (fld hD).q2
  have hq64 := (fld hD).q64
  have HD : Hid (D ∈ fieldsL) := hD
  clear hD
  go_enter Try.func46, Try.ntmps46
  go_wp2_with fail
  refine (new_any HD.out w).mono ?_
  rintro e w1 ⟨F, T, g, rfl, _, _, _, hb1⟩
  have H1 : Hid (Below w.heap.size w w1) := hb1
  clear hb1
  go_wp2
  go_loopw [10, 2, 34] (fun vs vd vi wr => ∃ i s x : Nat, vs = .int .i64 (s : Nat) ∧ vd = .int .i64 (x : Nat) ∧ vi = .int .i64 (i : Nat) ∧ i ≤ k ∧ Hid (s = gs D.q d i ∧ x = gd D.q d i) ∧ wr = w1) (fun _ _ vi _ => k - (intOf vi).toNat)
  case atStart => exact ⟨0, 0, d, rfl, rfl, rfl, by omega, ⟨rfl, rfl⟩, rfl⟩
  case round =>
    obtain ⟨i, s, x, rfl, rfl, rfl, hi, HV, hw⟩ := hrel
    have hw := hw.symm
    subst hw
    by_cases hlt : i < k
    · have hib : (i : Int) < (k : Int) := by omega
      have hs : s ≤ 4096 := by
        rw [HV.out.1]
        exact Nat.le_trans (gs_le (by omega) i) (Nat.le_trans (Nat.mul_le_mul (show i ≤ 64 by omega) hd2) (by omega))
      have hx : x ≤ 64 := by rw [HV.out.2]; exact Nat.le_trans (gd_le (by omega) i) hd2
      obtain ⟨y, hy⟩ : ∃ y, y = (x + D.q - 1) / D.q := ⟨_, rfl⟩
      have HR : Hid (s + x = gs D.q d (i + 1) ∧ y = gd D.q d (i + 1)) := by
        refine ⟨?_, ?_⟩
        · show s + x = gs D.q d i + gd D.q d i; rw [HV.out.1, HV.out.2]
        · show y = (gd D.q d i + D.q - 1) / D.q; rw [hy, HV.out.2]
      have HC : Hid (∀ ww : World, Calls Try.prog 81 #[.int .i64 (x : Nat), .int .i64 (D.q : Nat)] ww fun e w' => e = .returned (.int .i64 (y : Nat)) ∧ w' = ww) := fun ww => by
        rw [hy]; exact roundUp_any x D.q (by omega) (by omega) (by omega) ww
      clear hy
      go_wp2_with (go_at_call 81; refine (HC.out _).mono ?_; rintro e w2 ⟨rfl, hw⟩; have hw := hw.symm; subst hw)
      go_roundw
      case rel => exact ⟨i + 1, s + x, y, by go_num, rfl, by go_num, by omega, HR.out, by first | rfl | trivial⟩
      case measure => simp [intOf]; omega
    · have hie : i = k := by omega
      subst hie
      go_wp2
      go_ret2
      exact ⟨by rw [← HV.out.1]; rfl, H1.out⟩
end Go.Proofs.Ytnjbnamcedfjaaa

/- Plain mathematics: balls; a sum split into high and low parts, and divided. No Go text here. -/
namespace Go.Proofs.Ytnjbnamcedfjaaa

theorem kc_one : ∀ i k, kc (fun _ => 1) i k = (chs i k : Nat)
  | 0, 0 => rfl
  | 0, _ + 1 => rfl
  | i + 1, 0 => by rw [kc_zero, chs_zero]; rfl
  | i + 1, k + 1 => by
    show kc (fun _ => 1) i (k + 1) + 1 * kc (fun _ => 1) i k = ((chs i k + chs i (k + 1) : Nat) : Int)
    rw [kc_one i (k + 1), kc_one i k, Int.one_mul, Int.natCast_add, Int.add_comm]

/-- How many words lie within r - 1 places. -/
def bls (q n : Nat) : Nat → Nat
  | 0 => 0
  | r + 1 => bls q n r + (q - 1) ^ r * chs n r
theorem bterm_le {q n r : Nat} (hq : 1 ≤ q) : (q - 1) ^ r * chs n r ≤ q ^ n := by
  have h := chs_pw (q - 1) n r
  rw [show q - 1 + 1 = q by omega] at h
  exact h
theorem bls_le {q n : Nat} (hq : 1 ≤ q) : ∀ r, bls q n r ≤ r * q ^ n
  | 0 => by show 0 ≤ _; omega
  | r + 1 => by
    have h1 := bls_le (n := n) hq r
    have h2 := bterm_le (n := n) (r := r) hq
    show bls q n r + (q - 1) ^ r * chs n r ≤ _
    rw [Nat.add_mul]
    omega
theorem bls_pos {q n : Nat} : ∀ r, 1 ≤ bls q n (r + 1)
  | 0 => by
    show 1 ≤ 0 + (q - 1) ^ 0 * chs n 0
    rw [chs_zero]; simp
  | r + 1 => by
    have := bls_pos (q := q) (n := n) r
    show 1 ≤ bls q n (r + 1) + _
    omega

/-- The parts of a division agree with the whole one's. -/
theorem split_div {S h l A hq hr rest rq rr : Int} (hA : 0 < A) (hS : S = 32768 * h + l) (hh : h = A * hq + hr) (hrest : rest = hr * 32768 + l) (hr2 : rest = A * rq + rr) (e1 : rest.tmod A = rr) (h0 : rr = 0) :
    S = A * (hq * 32768 + rq) ∧ S.tmod A = 0 ∧ S.tdiv A = hq * 32768 + rq := by
  have e : S = A * (hq * 32768 + rq) := by
    rw [hS, hh, Int.mul_add A, ← Int.mul_assoc A hq 32768]
    omega
  refine ⟨e, ?_, ?_⟩
  · rw [e]; exact Int.mul_tmod_right _ _
  · rw [e]; exact Int.mul_tdiv_cancel_left _ (by omega)
theorem split_no {S h l A hq hr rest : Int} (hS : S = 32768 * h + l) (hh : h = A * hq + hr) (hrest : rest = hr * 32768 + l) (h0 : rest.tmod A ≠ 0) : S.tmod A ≠ 0 := by
  intro hc
  obtain ⟨z, hz⟩ := Int.dvd_of_tmod_eq_zero hc
  refine h0 (Int.tmod_eq_zero_of_dvd ⟨z - 32768 * hq, ?_⟩)
  rw [Int.mul_sub, ← hz, hrest, hS, hh, Int.mul_add, ← Int.mul_assoc A 32768 hq, Int.mul_comm A 32768, Int.mul_assoc 32768 A hq]
  omega
end Go.Proofs.Ytnjbnamcedfjaaa
