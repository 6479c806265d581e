/- Texts of ours, one behind the other: KB3 KB5 KB6 KB7 S23 S24 S25 S27 S28 KD1 W13 KD2 KD3 KD4 KD5 KD6 KD7. -/
import Derived.Test.YtbofcldmgjeklabZKA8
import Derived.Test.YtbofcldmgjeklabZKA6
import Derived.Test.YtbofcldmgjeklabZN2
import Derived.Test.YtbofcldmgjeklabZV7
import Derived.Test.YtbofcldmgjeklabZU4
import Derived.Test.YtbofcldmgjeklabZL1
import Derived.Test.YtbofcldmgjeklabZH2
import Derived.Test.YtbofcldmgjeklabZS13
import Derived.Test.YtbofcldmgjeklabZZ5
import Derived.Test.YtbofcldmgjeklabZX18
import Derived.Test.YtbofcldmgjeklabZI8
/- Weights: Krawtchouk and the bounds of the program (printed by make/kb3.py). -/
namespace Go.Proofs.Ytbofcldmgjeklab
open Go.RowKit Go.Sort

set_option maxHeartbeats 2000000 in
set_option maxRecDepth 100000 in
theorem wH_ok (q n d : Nat) (hq : 2 ≤ q) (hq2 : q ≤ 64) (hp : q ^ n ≤ 1073741824) (hd : 1 ≤ d) (hdn : d ≤ n) {w : World} (hC : Calls Try.prog 80 #[.int .i64 (q : Nat), .int .i64 (n : Nat), .int .i64 (d : Nat)] w fun e w' => e = .returned (.int .i64 0) ∧ Below w.heap.size w w') :
    Calls Try.prog 31 #[.int .i64 (q : Nat), .int .i64 (n : Nat), .int .i64 (d : Nat)] w fun e w' => e = .returned (.tuple #[.int .i64 (((q ^ n / bls q n ((d - 1) / 2 + 1) : Nat) : Int)), .int .i64 0]) ∧ Below w.heap.size w w' := by
  have hn30 : n ≤ 30 := pow30 hq hp
  have HC : Hid (Calls Try.prog 80 #[.int .i64 (q : Nat), .int .i64 (n : Nat), .int .i64 (d : Nat)] w fun e w' => e = .returned (.int .i64 0) ∧ Below w.heap.size w w') := hC
  clear hC
  obtain ⟨P, hP⟩ : ∃ P, P = q ^ n := ⟨_, rfl⟩
  have hPb : P ≤ 1073741824 := by rw [hP]; exact hp
  have HPw : Hid (∀ ww : World, Calls Try.prog 75 #[.int .i64 (q : Nat), .int .i64 (n : Nat)] ww fun e w' => e = .returned (.int .i64 (P : Nat)) ∧ w' = ww) := fun ww => by
    rw [hP]; exact wpow_is q n (by omega) hq2 (by omega) hp ww
  obtain ⟨r, hr⟩ : ∃ r, r = (d - 1) / 2 := ⟨_, rfl⟩
  have hr2 : r ≤ n := by omega
  have hdr : Int.tdiv ((d : Int) - 1) 2 = (r : Int) := by
    rw [show (d : Int) - 1 = ((d - 1 : Nat) : Int) by omega, hr]
    rfl
  rw [← hr]
  obtain ⟨B, hB⟩ : ∃ B, B = bls q n (r + 1) := ⟨_, rfl⟩
  have hB0 := hB
  have hBp : 1 ≤ B := by rw [hB]; exact bls_pos _
  have hBb : B ≤ 34359738368 := by
    rw [hB]
    exact Nat.le_trans (bls_le (by omega) _) (Nat.le_trans (Nat.mul_le_mul (show r + 1 ≤ 32 by omega) hp) (by omega))
  have HBw : Hid (∀ ww : World, Calls Try.prog 81 #[.int .i64 (q : Nat), .int .i64 (n : Nat), .int .i64 (r : Nat)] ww fun e w' => e = .returned (.int .i64 (B : Nat)) ∧ w' = ww) := fun ww => by
    rw [hB]; exact wball_any q n (r) hq hq2 hp (by omega) ww
  obtain ⟨Q, hQ⟩ : ∃ Q, Q = P / B := ⟨_, rfl⟩
  have hq3 : Int.tdiv (P : Int) (B : Int) = (Q : Int) := by rw [hQ]; rfl
  have hQb : Q ≤ 1073741824 := by rw [hQ]; exact Nat.le_trans (Nat.div_le_self _ _) hPb
  have hne : (B : Int) ≠ 0 := by omega
  rw [← hP, ← hB, ← hQ]
  clear hP hB hB0 hQ hr hp
  go_enter Try.func31, Try.ntmps31
  go_wp2_with fail
  refine HC.out.mono ?_
  rintro e w1 ⟨rfl, hb⟩
  have H1 : Hid (Below w.heap.size w w1) := hb
  clear hb
  go_wp2_with fail
  refine (HPw.out _).mono ?_
  rintro e w2 ⟨rfl, hw⟩
  have hw := hw.symm
  subst hw
  go_wp2_with fail
  (try simp only [hdr])
  refine (HBw.out _).mono ?_
  rintro e w2 ⟨rfl, hw⟩
  have hw := hw.symm
  subst hw
  go_wp2
  go_ret2
  exact ⟨by first | rfl | simp [hq3], H1.out⟩

set_option maxHeartbeats 2000000 in
set_option maxRecDepth 100000 in
theorem wS_ok (q n d : Nat) (hq : 2 ≤ q) (hq2 : q ≤ 64) (hp : q ^ n ≤ 1073741824) (hd : 1 ≤ d) (hdn : d ≤ n) {w : World} (hC : Calls Try.prog 80 #[.int .i64 (q : Nat), .int .i64 (n : Nat), .int .i64 (d : Nat)] w fun e w' => e = .returned (.int .i64 0) ∧ Below w.heap.size w w') :
    Calls Try.prog 32 #[.int .i64 (q : Nat), .int .i64 (n : Nat), .int .i64 (d : Nat)] w fun e w' => e = .returned (.tuple #[.int .i64 (((q ^ (n - d + 1) : Nat) : Int)), .int .i64 0]) ∧ Below w.heap.size w w' := by
  have hn30 : n ≤ 30 := pow30 hq hp
  have HC : Hid (Calls Try.prog 80 #[.int .i64 (q : Nat), .int .i64 (n : Nat), .int .i64 (d : Nat)] w fun e w' => e = .returned (.int .i64 0) ∧ Below w.heap.size w w') := hC
  clear hC
  have HPw : Hid (∀ ww : World, Calls Try.prog 75 #[.int .i64 (q : Nat), .int .i64 ((n : Int) - (d : Int) + 1)] ww fun e w' => e = .returned (.int .i64 (q ^ (n - d + 1) : Nat)) ∧ w' = ww) := fun ww => by
    rw [show (n : Int) - (d : Int) + 1 = ((n - d + 1 : Nat) : Int) by omega]
    exact wpow_is q (n - d + 1) (by omega) hq2 (by omega) (Nat.le_trans (Nat.pow_le_pow_right (by omega) (by omega)) hp) ww
  clear hp
  go_enter Try.func32, Try.ntmps32
  go_wp2_with fail
  refine HC.out.mono ?_
  rintro e w1 ⟨rfl, hb⟩
  have H1 : Hid (Below w.heap.size w w1) := hb
  clear hb
  go_wp2_with fail
  refine (HPw.out _).mono ?_
  rintro e w2 ⟨rfl, hw⟩
  have hw := hw.symm
  subst hw
  go_wp2
  go_ret2
  exact ⟨rfl, H1.out⟩

/-- What Plotkin's bound tells. -/
def plk (q n d : Nat) : Nat := if n * (q - 1) < q * d then q * d / (q * d - n * (q - 1)) else 0

set_option maxHeartbeats 2000000 in
set_option maxRecDepth 100000 in
theorem wP_ok (q n d : Nat) (hq : 2 ≤ q) (hq2 : q ≤ 64) (hp : q ^ n ≤ 1073741824) (_ : 1 ≤ d) (hdn : d ≤ n) {w : World} (hC : Calls Try.prog 80 #[.int .i64 (q : Nat), .int .i64 (n : Nat), .int .i64 (d : Nat)] w fun e w' => e = .returned (.int .i64 0) ∧ Below w.heap.size w w') :
    Calls Try.prog 33 #[.int .i64 (q : Nat), .int .i64 (n : Nat), .int .i64 (d : Nat)] w fun e w' => e = .returned (.tuple #[.int .i64 (((plk q n d : Nat) : Int)), .int .i64 0]) ∧ Below w.heap.size w w' := by
  have hn30 : n ≤ 30 := pow30 hq hp
  have HC : Hid (Calls Try.prog 80 #[.int .i64 (q : Nat), .int .i64 (n : Nat), .int .i64 (d : Nat)] w fun e w' => e = .returned (.int .i64 0) ∧ Below w.heap.size w w') := hC
  clear hC
  clear hp
  obtain ⟨A, hA⟩ : ∃ A, A = q * d := ⟨_, rfl⟩
  obtain ⟨C, hC2⟩ : ∃ C, C = n * (q - 1) := ⟨_, rfl⟩
  have hAb : A ≤ 64 * 30 := by rw [hA]; exact Nat.mul_le_mul hq2 (by omega)
  have hCb : C ≤ 30 * 64 := by rw [hC2]; exact Nat.mul_le_mul hn30 (by omega)
  have hw1 : IntKind.i64.wrap ((q : Int) * (d : Int)) = (A : Int) := by
    rw [show (q : Int) * (d : Int) = (A : Int) by rw [hA]; simp]
    exact wrap_ka (by omega) (by omega)
  have hw2 : IntKind.i64.wrap ((n : Int) * ((q : Int) - 1)) = (C : Int) := by
    rw [show (q : Int) - 1 = ((q - 1 : Nat) : Int) by omega, show (n : Int) * ((q - 1 : Nat) : Int) = (C : Int) by rw [hC2]; simp]
    exact wrap_ka (by omega) (by omega)
  have HK : Hid (plk q n d = if C < A then A / (A - C) else 0) := by show plk q n d = _; unfold plk; rw [hA, hC2]
  clear hA hC2
  go_enter Try.func33, Try.ntmps33
  by_cases hlt : C < A
  · have HV : Hid (plk q n d = A / (A - C)) := by show _ = _; rw [HK.out, if_pos hlt]
    clear HK
    have hm : ¬ (A : Int) - (C : Int) ≤ 0 := by omega
    obtain ⟨Q, hQ⟩ : ∃ Q, Q = A / (A - C) := ⟨_, rfl⟩
    have hq3 : Int.tdiv (A : Int) ((A : Int) - (C : Int)) = (Q : Int) := by
      rw [show (A : Int) - (C : Int) = ((A - C : Nat) : Int) by omega, hQ]; rfl
    have hQb : Q ≤ 1920 := by rw [hQ]; exact Nat.le_trans (Nat.div_le_self _ _) (by omega)
    have hne : (A : Int) - (C : Int) ≠ 0 := by omega
    have HV2 : Hid (plk q n d = Q) := by show _ = _; rw [HV.out, hQ]
    clear HV hQ
    go_wp2_with fail
    refine HC.out.mono ?_
    rintro e w1 ⟨rfl, hb⟩
    have H1 : Hid (Below w.heap.size w w1) := hb
    clear hb
    go_wp2
    go_ret2
    exact ⟨by rw [HV2.out]; first | rfl | simp [hq3], H1.out⟩
  · have HV : Hid (plk q n d = 0) := by show _ = _; rw [HK.out, if_neg hlt]
    clear HK
    have hm : (A : Int) - (C : Int) ≤ 0 := by omega
    go_wp2_with fail
    refine HC.out.mono ?_
    rintro e w1 ⟨rfl, hb⟩
    have H1 : Hid (Below w.heap.size w w1) := hb
    clear hb
    go_wp2
    go_ret2
    exact ⟨by rw [HV.out]; first | rfl | simp, H1.out⟩

/-- What Varshamov's bound tells. -/
def vrs (q n d : Nat) : Nat := (q ^ n + bls q n d - 1) / bls q n d

set_option maxHeartbeats 2000000 in
set_option maxRecDepth 100000 in
theorem wV_ok (q n d : Nat) (hq : 2 ≤ q) (hq2 : q ≤ 64) (hp : q ^ n ≤ 1073741824) (hd : 1 ≤ d) (hdn : d ≤ n) {w : World} (hC : Calls Try.prog 80 #[.int .i64 (q : Nat), .int .i64 (n : Nat), .int .i64 (d : Nat)] w fun e w' => e = .returned (.int .i64 0) ∧ Below w.heap.size w w') :
    Calls Try.prog 34 #[.int .i64 (q : Nat), .int .i64 (n : Nat), .int .i64 (d : Nat)] w fun e w' => e = .returned (.tuple #[.int .i64 (((vrs q n d : Nat) : Int)), .int .i64 0]) ∧ Below w.heap.size w w' := by
  have hn30 : n ≤ 30 := pow30 hq hp
  have HC : Hid (Calls Try.prog 80 #[.int .i64 (q : Nat), .int .i64 (n : Nat), .int .i64 (d : Nat)] w fun e w' => e = .returned (.int .i64 0) ∧ Below w.heap.size w w') := hC
  clear hC
  obtain ⟨P, hP⟩ : ∃ P, P = q ^ n := ⟨_, rfl⟩
  have hPb : P ≤ 1073741824 := by rw [hP]; exact hp
  have HPw : Hid (∀ ww : World, Calls Try.prog 75 #[.int .i64 (q : Nat), .int .i64 (n : Nat)] ww fun e w' => e = .returned (.int .i64 (P : Nat)) ∧ w' = ww) := fun ww => by
    rw [hP]; exact wpow_is q n (by omega) hq2 (by omega) hp ww
  obtain ⟨d', hd'⟩ : ∃ d', d = d' + 1 := ⟨d - 1, by omega⟩
  obtain ⟨B, hB⟩ : ∃ B, B = bls q n d := ⟨_, rfl⟩
  have hBp : 1 ≤ B := by rw [hB, hd']; exact bls_pos _
  have hBb : B ≤ 34359738368 := by
    rw [hB]
    exact Nat.le_trans (bls_le (by omega) _) (Nat.le_trans (Nat.mul_le_mul (show d ≤ 32 by omega) hp) (by omega))
  have HBw : Hid (∀ ww : World, Calls Try.prog 81 #[.int .i64 (q : Nat), .int .i64 (n : Nat), .int .i64 ((d : Int) - 1)] ww fun e w' => e = .returned (.int .i64 (B : Nat)) ∧ w' = ww) := fun ww => by
    rw [show (d : Int) - 1 = ((d' : Nat) : Int) by omega, hB, hd']; exact wball_any q n d' hq hq2 hp (by omega) ww
  have HU : Hid (∀ ww : World, Calls Try.prog 82 #[.int .i64 (P : Nat), .int .i64 (B : Nat)] ww fun e w' => e = .returned (.int .i64 ((P + B - 1) / B : Nat)) ∧ w' = ww) := fun ww => roundUp_any P B hBp (by omega) (by omega) ww
  have HV : Hid (vrs q n d = (P + B - 1) / B) := by show vrs q n d = _; unfold vrs; rw [hP, hB]
  clear hP hB hd' hp
  go_enter Try.func34, Try.ntmps34
  go_wp2_with fail
  refine HC.out.mono ?_
  rintro e w1 ⟨rfl, hb⟩
  have H1 : Hid (Below w.heap.size w w1) := hb
  clear hb
  go_wp2_with fail
  refine (HPw.out _).mono ?_
  rintro e w2 ⟨rfl, hw⟩
  have hw := hw.symm
  subst hw
  go_wp2_with fail
  refine (HBw.out _).mono ?_
  rintro e w2 ⟨rfl, hw⟩
  have hw := hw.symm
  subst hw
  go_wp2_with fail
  refine (HU.out _).mono ?_
  rintro e w2 ⟨rfl, hw⟩
  have hw := hw.symm
  subst hw
  go_wp2
  go_ret2
  exact ⟨by rw [HV.out]; rfl, H1.out⟩
end Go.Proofs.Ytbofcldmgjeklab

/- Weights: the program's together and Dual (printed by make/kb5.py). -/
namespace Go.Proofs.Ytbofcldmgjeklab
open Go.RowKit Go.Sort

theorem RowZ.lt {g N : Nat} {z : Nat → Int} {w : World} (h : RowZ g N z w) : g < w.heap.size := by
  obtain ⟨cap, f, h1, h2, h3⟩ := h
  exact h1.lt

theorem RowZ.drewN {g N : Nat} {z : Nat → Int} {w : World} (h : RowZ g N z w) (k : Nat) : RowZ g N z (w.drewN k) := by
  obtain ⟨cap, f, h1, h2, h3⟩ := h
  exact ⟨cap, f, h1.drewN k, h2, h3⟩
end Go.Proofs.Ytbofcldmgjeklab

/- Weights: the reference's Turned (printed by make/kb6.py). -/
namespace Go.Proofs.Ytbofcldmgjeklab
open Go.RowKit Go.Sort

end Go.Proofs.Ytbofcldmgjeklab

/- Weights: the law's walk of MacWilliams' transform (printed by make/kb7.py). -/
namespace Go.Proofs.Ytbofcldmgjeklab
open Go.RowKit Go.Sort

theorem outB_in {z : Nat → Int} {M : Int} : ∀ {n : Nat}, (∀ j, j < n → 0 ≤ z j ∧ z j ≤ M) → outB z M n = false
  | 0, _ => rfl
  | n + 1, h => by
    show (outB z M n || (decide (z n < 0) || decide (M < z n))) = false
    have h2 := h n (by omega)
    rw [outB_in (fun j hj => h j (by omega)), decide_eq_false (by omega), decide_eq_false (by omega)]; rfl
end Go.Proofs.Ytbofcldmgjeklab

/- Plain mathematics: sets that are great and meet little are few (Johnson). No Go text here. -/
namespace Go.Proofs.Ytbofcldmgjeklab

theorem ct_mono {p p' : Nat → Bool} : ∀ n, (∀ i, i < n → p i = true → p' i = true) → ct p n ≤ ct p' n
  | 0, _ => Nat.le_refl _
  | n + 1, h => by
    have h1 := ct_mono n (fun i hi => h i (by omega))
    have h2 := h n (by omega)
    show ct p n + (if p n = true then 1 else 0) ≤ ct p' n + if p' n = true then 1 else 0
    by_cases e : p n = true
    · rw [if_pos e, if_pos (h2 e)]; omega
    · rw [if_neg e]; omega
end Go.Proofs.Ytbofcldmgjeklab

/- Plain mathematics of Sudan's sum: a message that agrees at many places makes it nought. No Go text here. -/
namespace Go.Proofs.Ytbofcldmgjeklab
open Go.RowKit Go.Sort

/-- Horner's way. -/
def hrn (D : FD) (A : Nat → Nat) (y m : Nat) : Nat → Nat
  | 0 => 0
  | r + 1 => D.ad (D.mul (hrn D A y m r) y) (A (m - 1 - r))
end Go.Proofs.Ytbofcldmgjeklab

/- Plain mathematics of Sudan's sum, second part: the curve of a message that agrees at t places is nought. No Go text here. -/
namespace Go.Proofs.Ytbofcldmgjeklab
open Go.RowKit Go.Sort

theorem ct_all {p : Nat → Bool} : ∀ n, (∀ i, i < n → p i = true) → ct p n = n
  | 0, _ => rfl
  | n + 1, h => by
    show ct p n + (if p n = true then 1 else 0) = n + 1
    rw [ct_all n (fun i hi => h i (by omega)), if_pos (h n (by omega))]
theorem ct_same {p p' : Nat → Bool} : ∀ n, (∀ i, i < n → p i = p' i) → ct p n = ct p' n
  | 0, _ => rfl
  | n + 1, h => by
    show ct p n + (if p n = true then 1 else 0) = ct p' n + if p' n = true then 1 else 0
    rw [ct_same n (fun i hi => h i (by omega)), h n (by omega)]
end Go.Proofs.Ytbofcldmgjeklab

/- Plain mathematics of words that are mended: one near message; what meets the equations; the error locator. No Go text here. -/
namespace Go.Proofs.Ytbofcldmgjeklab
open Go.RowKit Go.Sort

theorem ct_or (p q : Nat → Bool) : ∀ n, ct (fun i => p i || q i) n ≤ ct p n + ct q n
  | 0 => Nat.le_refl _
  | n + 1 => by
    have := ct_or p q n
    show ct (fun i => p i || q i) n + (if (p n || q n) = true then 1 else 0) ≤ ct p n + (if p n = true then 1 else 0) + (ct q n + if q n = true then 1 else 0)
    cases p n <;> cases q n <;> simp <;> omega
/-- At how many places a message's word differs. -/
def ofs (D : FD) (k n : Nat) (xs y a : Nat → Nat) : Nat := ct (fun i => !decide (D.ev a (xs i) k = y i)) n
/-- Two near messages are one. -/
theorem near_one {D : FD} (F : Fld D) {xs y a b : Nat → Nat} {n k : Nat} (hk : k ≤ n) (hx : ∀ i, i < n → xs i < D.q) (hne : ∀ i j, i < n → j < n → i ≠ j → xs i ≠ xs j) (ha : El D a) (hb : El D b) (hba : Bd k a) (hbb : Bd k b) (h1 : 2 * ofs D k n xs y a ≤ n - k) (h2 : 2 * ofs D k n xs y b ≤ n - k) : a = b := by
  refine Classical.byContradiction fun h => ?_
  have h3 := far_apart F hx hne ha hb hba hbb h
  have h4 : ct (fun i => !decide (D.ev a (xs i) k = D.ev b (xs i) k)) n ≤ ct (fun i => !decide (D.ev a (xs i) k = y i) || !decide (D.ev b (xs i) k = y i)) n := ct_mono n fun i _ he => by
    by_cases e1 : D.ev a (xs i) k = y i
    · by_cases e2 : D.ev b (xs i) k = y i
      · rw [e1, e2] at he
        simp at he
      · simp [e2]
    · simp [e1]
  have h5 := ct_or (fun i => !decide (D.ev a (xs i) k = y i)) (fun i => !decide (D.ev b (xs i) k = y i)) n
  unfold ofs at h1 h2
  omega
/-- Whatever meets the equations is the message times its second part. -/
theorem key_eq {D : FD} (F : Fld D) {xs y a N E : Nat → Nat} {n k wr M : Nat} (hM1 : k + wr ≤ M) (hM2 : M + wr ≤ n) (hx : ∀ i, i < n → xs i < D.q) (hne : ∀ i j, i < n → j < n → i ≠ j → xs i ≠ xs j) (hN : El D N) (hbN : Bd M N) (hE : El D E) (hbE : Bd (wr + 1) E) (ho : ofs D k n xs y a ≤ wr) (he : ∀ i, i < n → D.ev N (xs i) M = D.mul (y i) (D.ev E (xs i) (wr + 1))) : N = pmul D k a E := by
  have hd : El D (psub D N (pmul D k a E)) := el_sub F hN (el_mul F _ _ _)
  have hpb : Bd (k + wr) (pmul D k a E) := by
    have := pmul_bd F (a := a) hbE k
    rw [show k + (wr + 1) - 1 = k + wr by omega] at this
    exact this
  have hbd : Bd M (psub D N (pmul D k a E)) := fun j hj => by
    show D.sb (N j) (pmul D k a E j) = 0
    rw [hbN j hj, hpb j (by omega), sb_self F (zero_lt' F)]
  refine psub_eq_nil F hN (el_mul F _ _ _) (Classical.byContradiction fun h0 => ?_)
  have h1 := few_roots F hx hne M hd hbd h0
  have h2 : ct (fun i => decide (D.ev a (xs i) k = y i)) n ≤ ct (fun i => decide (D.ev (psub D N (pmul D k a E)) (xs i) M = 0)) n := ct_mono n fun i hi hc => by
    have hc : D.ev a (xs i) k = y i := of_decide_eq_true hc
    refine decide_eq_true ?_
    have e1 : D.ev (pmul D k a E) (xs i) M = D.mul (y i) (D.ev E (xs i) (wr + 1)) := by
      rw [ev_from F (xs i) hpb hM1, ← ev_from F (xs i) hpb (show k + wr ≤ k + (wr + 1) by omega), ev_mul F (xs i) hbE hE k (k + (wr + 1)) (Nat.le_refl _), hc]
    rw [ev_sub F (xs i) hN (el_mul F _ _ _), he i hi, e1, sb_self F (F.mul_lt _ _)]
  have h3 := ct_not (fun i => decide (D.ev a (xs i) k = y i)) n
  unfold ofs at ho
  omega

end Go.Proofs.Ytbofcldmgjeklab

/- Plain mathematics of Euclid's way to mend a word: what stays as it goes on; what stands at its end. No Go text here. -/
namespace Go.Proofs.Ytbofcldmgjeklab
open Go.RowKit Go.Sort

/-- What stays: A, B the last two remainders; S, T what the second polynomial is multiplied by. -/
structure Euc (D : FD) (n : Nat) (xs y : Nat → Nat) (A B S T : Nat → Nat) (lA lB lS lT : Nat) : Prop where
  eA : El D A
  eB : El D B
  eS : El D S
  eT : El D T
  tA : Trd lA A
  tB : Trd lB B
  bS : Bd lS S
  tT : Trd lT T
  lt : lB < lA
  ls : lS < lT
  sum : lT + lA = n + 2
  atA : ∀ i, i < n → ∀ N, lA ≤ N → ∀ M, lS ≤ M → D.ev A (xs i) N = D.mul (y i) (D.ev S (xs i) M)
  atB : ∀ i, i < n → ∀ N, lB ≤ N → ∀ M, lT ≤ M → D.ev B (xs i) N = D.mul (y i) (D.ev T (xs i) M)
/-- One step further: A = Q B + C. -/
theorem Euc.step {D : FD} (F : Fld D) {n : Nat} {xs y A B S T Q C : Nat → Nat} {lA lB lS lT lQ lC : Nat} (h : Euc D n xs y A B S T lA lB lS lT) (tQ : Trd lQ Q) (eC : El D C) (tC : Trd lC C) (hC : lC < lB) (hA : A = padd D (pmul D lQ Q B) C) (hl : lQ + lB = lA + 1) :
    Euc D n xs y B C T (psub D S (pmul D lQ Q T)) lB lC lT (lQ + lT - 1) := by
  have hq2 : 2 ≤ lQ := by have := h.lt; omega
  have hT1 : 1 ≤ lT := by have := h.ls; omega
  have hbQT : Bd (lQ + lT - 1) (pmul D lQ Q T) := pmul_bd F h.tT.1 lQ
  have htop : pmul D lQ Q T (lQ + lT - 2) ≠ 0 := by
    obtain ⟨q1, rfl⟩ : ∃ q1, lQ = q1 + 1 := ⟨lQ - 1, by omega⟩
    obtain ⟨t1, rfl⟩ : ∃ t1, lT = t1 + 1 := ⟨lT - 1, by omega⟩
    have e := pmul_top F (a := Q) (n := q1) h.tT.1
    rw [show q1 + 1 + (t1 + 1) - 2 = q1 + t1 by omega, e]
    intro hz
    have hQ1 : Q q1 ≠ 0 := by have := tQ.2 (by omega); rwa [Nat.add_sub_cancel] at this
    have hT2 : T t1 ≠ 0 := by have := h.tT.2 (by omega); rwa [Nat.add_sub_cancel] at this
    exact hT2 (mul_cancel F hQ1 (h.eT _) (zero_lt' F) (by rw [hz, mul0 F]))
  have hS0 : ∀ j, lT ≤ j → S j = 0 := fun j hj => h.bS j (by have := h.ls; omega)
  refine ⟨h.eB, eC, h.eT, el_sub F h.eS (el_mul F _ _ _), h.tB, tC, h.tT.1, ⟨fun j hj => ?_, fun _ => ?_⟩, hC, by omega, by have := h.sum; omega, h.atB, fun i hi N hN M hM => ?_⟩
  · show D.sb (S j) (pmul D lQ Q T j) = 0
    rw [hS0 j (by omega), hbQT j hj, sb_self F (zero_lt' F)]
  · show D.sb (S (lQ + lT - 1 - 1)) (pmul D lQ Q T (lQ + lT - 1 - 1)) ≠ 0
    rw [hS0 _ (by omega), show lQ + lT - 1 - 1 = lQ + lT - 2 by omega]
    intro hz
    exact htop (sb_eq_zero F (zero_lt' F) (el_mul F _ _ _ _) hz).symm
  · -- at a place
    have hbB : Bd (lQ + lB - 1) (pmul D lQ Q B) := pmul_bd F h.tB.1 lQ
    have e1 : D.ev A (xs i) (lQ + lB) = D.ad (D.mul (D.ev Q (xs i) lQ) (D.ev B (xs i) lB)) (D.ev C (xs i) (lQ + lB)) := by
      rw [hA, ev_add F (xs i) (el_mul F _ _ _) eC, ev_mul F (xs i) h.tB.1 h.eB lQ (lQ + lB) (Nat.le_refl _)]
    have e2 := h.atA i hi (lQ + lB) (by omega) lT (by have := h.ls; omega)
    have e3 := h.atB i hi lB (Nat.le_refl _) lT (Nat.le_refl _)
    have e4 : D.ev C (xs i) N = D.ev C (xs i) (lQ + lB) := by
      rw [ev_from F (xs i) tC.1 hN, ev_from F (xs i) tC.1 (show lC ≤ lQ + lB by omega)]
    have hbT' : Bd (lQ + lT - 1) (psub D S (pmul D lQ Q T)) := fun j hj => by
      show D.sb (S j) (pmul D lQ Q T j) = 0
      rw [hS0 j (by omega), hbQT j hj, sb_self F (zero_lt' F)]
    have e5 : D.ev (psub D S (pmul D lQ Q T)) (xs i) M = D.sb (D.ev S (xs i) lT) (D.mul (D.ev Q (xs i) lQ) (D.ev T (xs i) lT)) := by
      rw [ev_from F (xs i) hbT' hM, ← ev_from F (xs i) hbT' (show lQ + lT - 1 ≤ lQ + lT by omega), ev_sub F (xs i) h.eS (el_mul F _ _ _), ev_mul F (xs i) h.tT.1 h.eT lQ (lQ + lT) (Nat.le_refl _), ev_from F (xs i) h.bS (show lS ≤ lQ + lT by have := h.ls; omega), ev_from F (xs i) h.bS (show lS ≤ lT by have := h.ls; omega)]
    have hS := ev_lt F S (xs i) lT
    have hQT := F.mul_lt (D.ev Q (xs i) lQ) (D.ev T (xs i) lT)
    have hCv := ev_lt F C (xs i) (lQ + lB)
    rw [e4, e5, mul_sb F hS hQT]
    -- C = A - Q B
    have e6 : D.ad (D.mul (D.ev Q (xs i) lQ) (D.mul (y i) (D.ev T (xs i) lT))) (D.ev C (xs i) (lQ + lB)) = D.mul (y i) (D.ev S (xs i) lT) := by
      rw [← e3, ← e1, e2]
    have e7 : D.mul (y i) (D.mul (D.ev Q (xs i) lQ) (D.ev T (xs i) lT)) = D.mul (D.ev Q (xs i) lQ) (D.mul (y i) (D.ev T (xs i) lT)) := by
      rw [← F.mul_assoc, F.mul_comm (y i), F.mul_assoc]
    rw [e7, ← e6, ad_comm F, sb_ad F hCv (F.mul_lt _ _)]
/-- Where it ends, the last remainder is the message times what stands beside it. -/
theorem Euc.last {D : FD} (F : Fld D) {n k : Nat} {xs y A B S T a : Nat → Nat} {lA lB lS lT : Nat} (h : Euc D n xs y A B S T lA lB lS lT) (hk : k ≤ n) (hA : n + k + 2 ≤ 2 * lA) (hB : 2 * lB < n + k + 2) (hx : ∀ i, i < n → xs i < D.q) (hne : ∀ i j, i < n → j < n → i ≠ j → xs i ≠ xs j) (ho : 2 * ofs D k n xs y a ≤ n - k) : B = pmul D k a T := by
  obtain ⟨wr, hwr⟩ : ∃ wr, wr = (n - k) / 2 := ⟨_, rfl⟩
  have h1 : lT ≤ wr + 1 := by have := h.sum; omega
  refine key_eq F (a := a) (y := y) (M := n - wr) (wr := wr) (by omega) (by omega) hx hne h.eB (fun j hj => h.tB.1 j (by omega)) h.eT (fun j hj => h.tT.1 j (by omega)) (by omega) (fun i hi => ?_)
  exact h.atB i hi (n - wr) (by omega) (wr + 1) h1
end Go.Proofs.Ytbofcldmgjeklab

/- The program's reed: quotient, spare. -/
namespace Go.Proofs.Ytbofcldmgjeklab
open Go.RowKit Go.Sort

end Go.Proofs.Ytbofcldmgjeklab

/- A region that draws its order and whose late operations, which wait for all that read, write what others read. No Go text here. -/
namespace Go.Proofs.Ytbofcldmgjeklab
open Go

end Go.Proofs.Ytbofcldmgjeklab

/- The program's reed: hear (printed by make/kd2.py). -/
namespace Go.Proofs.Ytbofcldmgjeklab
open Go.RowKit Go.Sort

/-- What a step of hear reads. -/
def hrR (B bx ox i : Nat) (vx vy : Value) (x : Int) (w : World) : Prop := w.cell? ⟨B, 2, none⟩ = some vx ∧ w.cell? ⟨B, 3, none⟩ = some vy ∧ w.cell? ⟨bx, ox + i, none⟩ = some (.int .i64 x)
/-- The numbers of a list at places where nothing is lost. -/
def hrL (z y : Nat → Int) : Nat → List Int
  | 0 => []
  | r + 1 => if y r = -1 then hrL z y r else hrL z y r ++ [z r]
end Go.Proofs.Ytbofcldmgjeklab

/- The program's reed: noughtAt. -/
namespace Go.Proofs.Ytbofcldmgjeklab
open Go.RowKit Go.Sort

end Go.Proofs.Ytbofcldmgjeklab

/- The program's reed: byDivisors. -/
namespace Go.Proofs.Ytbofcldmgjeklab
open Go.RowKit Go.Sort

end Go.Proofs.Ytbofcldmgjeklab

/- The program's reed: the walk of byDivisors. -/
namespace Go.Proofs.Ytbofcldmgjeklab
open Go.RowKit Go.Sort

end Go.Proofs.Ytbofcldmgjeklab

/- The program's reed: equation (the row of one place). -/
namespace Go.Proofs.Ytbofcldmgjeklab
open Go.RowKit Go.Sort

end Go.Proofs.Ytbofcldmgjeklab

/- What was heard of a word: numbers and places, as functions. -/
namespace Go.Proofs.Ytbofcldmgjeklab
open Go.RowKit Go.Sort

/-- What hear tells, as functions. -/
structure Heard (D : FD) (n : Nat) (c : Nat → Nat) (y : Nat → Int) (m : Nat) (c' y' : Nat → Nat) : Prop where
  lx : hrL (fun i => ((c i : Nat) : Int)) y n = zl m fun j => ((c' j : Nat) : Int)
  ly : hrL y y n = zl m fun j => ((y' j : Nat) : Int)
  le : m ≤ n
  cq : ∀ j, j < m → c' j < D.q
  ne : ∀ i j, i < m → j < m → i ≠ j → c' i ≠ c' j
  yq : ∀ j, j < m → y' j < D.q
  many : m = ct (fun i => !decide (y i = -1)) n
  ofs : ∀ k a, ofs D k m c' y' a = ct (fun i => !decide (y i = -1) && !decide (((D.ev a (c i) k : Nat) : Int) = y i)) n
end Go.Proofs.Ytbofcldmgjeklab
