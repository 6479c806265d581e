/- Weights: Krawtchouk and the bounds of the program (printed by make/kb3.py). -/
import Derived.Test.YtnjbnamcedfjaaaZKB1
import Derived.Test.YtnjbnamcedfjaaaZKB2
import Derived.Test.YtnjbnamcedfjaaaZKA7
namespace Go.Proofs.Ytnjbnamcedfjaaa
open Go.RowKit Go.Sort

set_option maxHeartbeats 2000000 in
set_option maxRecDepth 100000 in
theorem wK_err (q n k x e0 : Int) (h0 : e0 ≠ 0) {w : World} (hC : Calls Try.prog 11 #[.int .i64 q, .int .i64 n] w fun e w' => e = .returned (.int .i64 e0) ∧ Below w.heap.size w w') :
    Calls Try.prog 10 #[.int .i64 q, .int .i64 n, .int .i64 k, .int .i64 x] w fun e w' => e = .returned (.tuple #[.int .i64 0, .int .i64 e0]) ∧ Below w.heap.size w w' := by
  have h1 : (e0 != 0) = true := bne_iff_ne.2 h0
  have HC : Hid (Calls Try.prog 11 #[.int .i64 q, .int .i64 n] w fun e w' => e = .returned (.int .i64 e0) ∧ Below w.heap.size w w') := hC
  clear hC
  go_enter Try.func10, Try.ntmps10
  go_wp2_with fail
  refine HC.out.mono ?_
  rintro e w1 ⟨rfl, hb⟩
  have H1 : Hid (Below w.heap.size w w1) := hb
  clear hb
  go_wp2
  go_ret2
  exact ⟨rfl, H1.out⟩

set_option maxHeartbeats 2000000 in
set_option maxRecDepth 100000 in
theorem wK_place (q n k x : Int) (h : k < 0 ∨ n < k ∨ x < 0 ∨ n < x) {w : World} (hC : Calls Try.prog 11 #[.int .i64 q, .int .i64 n] w fun e w' => e = .returned (.int .i64 0) ∧ Below w.heap.size w w') :
    Calls Try.prog 10 #[.int .i64 q, .int .i64 n, .int .i64 k, .int .i64 x] w fun e w' => e = .returned (.tuple #[.int .i64 0, .int .i64 10]) ∧ Below w.heap.size w w' := by
  have HC : Hid (Calls Try.prog 11 #[.int .i64 q, .int .i64 n] w fun e w' => e = .returned (.int .i64 0) ∧ Below w.heap.size w w') := hC
  clear hC
  go_enter Try.func10, Try.ntmps10
  by_cases h1 : k < 0
  · clear h
    go_wp2_with fail
    refine HC.out.mono ?_
    rintro e w1 ⟨rfl, hb⟩
    have H1 : Hid (Below w.heap.size w w1) := hb
    clear hb
    go_wp2
    go_ret2
    exact ⟨rfl, H1.out⟩
  · by_cases h2 : n < k
    · have h2b : k > n := h2
      clear h
      go_wp2_with fail
      refine HC.out.mono ?_
      rintro e w1 ⟨rfl, hb⟩
      have H1 : Hid (Below w.heap.size w w1) := hb
      clear hb
      go_wp2
      go_ret2
      exact ⟨rfl, H1.out⟩
    · have h2b : ¬ k > n := h2
      by_cases h3 : x < 0
      · clear h
        go_wp2_with fail
        refine HC.out.mono ?_
        rintro e w1 ⟨rfl, hb⟩
        have H1 : Hid (Below w.heap.size w w1) := hb
        clear hb
        go_wp2
        go_ret2
        exact ⟨rfl, H1.out⟩
      · have h4 : n < x := by omega
        have h4b : x > n := h4
        clear h
        go_wp2_with fail
        refine HC.out.mono ?_
        rintro e w1 ⟨rfl, hb⟩
        have H1 : Hid (Below w.heap.size w w1) := hb
        clear hb
        go_wp2
        go_ret2
        exact ⟨rfl, H1.out⟩

set_option maxHeartbeats 2000000 in
set_option maxRecDepth 100000 in
theorem wK_ok (q n k x : Nat) (hq : 2 ≤ q) (hq2 : q ≤ 64) (hp : q ^ n ≤ 1073741824) (hk : k ≤ n) (hx : x ≤ n) {w : World} (hC : Calls Try.prog 11 #[.int .i64 (q : Nat), .int .i64 (n : Nat)] w fun e w' => e = .returned (.int .i64 0) ∧ Below w.heap.size w w') :
    Calls Try.prog 10 #[.int .i64 (q : Nat), .int .i64 (n : Nat), .int .i64 (k : Nat), .int .i64 (x : Nat)] w fun e w' => e = .returned (.tuple #[.int .i64 (kv q n k x), .int .i64 0]) ∧ Below w.heap.size w w' := by
  have HP : Hid (q ^ n ≤ 1073741824) := hp
  clear hp
  have h1 : ¬ (k : Int) < 0 := by omega
  have h2 : ¬ (n : Int) < (k : Int) := by omega
  have h2b : ¬ (k : Int) > (n : Int) := by omega
  have h3 : ¬ (x : Int) < 0 := by omega
  have h4 : ¬ (n : Int) < (x : Int) := by omega
  have h4b : ¬ (x : Int) > (n : Int) := by omega
  have HC : Hid (Calls Try.prog 11 #[.int .i64 (q : Nat), .int .i64 (n : Nat)] w fun e w' => e = .returned (.int .i64 0) ∧ Below w.heap.size w w') := hC
  clear hC
  go_enter Try.func10, Try.ntmps10
  go_wp2_with fail
  refine HC.out.mono ?_
  rintro e w1 ⟨rfl, hb⟩
  have H1 : Hid (Below w.heap.size w w1) := hb
  clear hb
  go_wp2_with fail
  refine (krawv_any q n k x hq hq2 HP.out hk hx _).mono ?_
  rintro e w2 ⟨rfl, hw⟩
  have hw := hw.symm
  subst hw
  go_wp2
  go_ret2
  exact ⟨rfl, H1.out⟩

set_option maxHeartbeats 2000000 in
set_option maxRecDepth 100000 in
theorem wH_err (q n d e0 : Int) (h0 : e0 ≠ 0) {w : World} (hC : Calls Try.prog 47 #[.int .i64 q, .int .i64 n, .int .i64 d] w fun e w' => e = .returned (.int .i64 e0) ∧ Below w.heap.size w w') :
    Calls Try.prog 40 #[.int .i64 q, .int .i64 n, .int .i64 d] w fun e w' => e = .returned (.tuple #[.int .i64 0, .int .i64 e0]) ∧ Below w.heap.size w w' := by
  have h1 : (e0 != 0) = true := bne_iff_ne.2 h0
  have HC : Hid (Calls Try.prog 47 #[.int .i64 q, .int .i64 n, .int .i64 d] w fun e w' => e = .returned (.int .i64 e0) ∧ Below w.heap.size w w') := hC
  clear hC
  go_enter Try.func40, Try.ntmps40
  go_wp2_with fail
  refine HC.out.mono ?_
  rintro e w1 ⟨rfl, hb⟩
  have H1 : Hid (Below w.heap.size w w1) := hb
  clear hb
  go_wp2
  go_ret2
  exact ⟨rfl, H1.out⟩

set_option maxHeartbeats 2000000 in
set_option maxRecDepth 100000 in
theorem wS_err (q n d e0 : Int) (h0 : e0 ≠ 0) {w : World} (hC : Calls Try.prog 47 #[.int .i64 q, .int .i64 n, .int .i64 d] w fun e w' => e = .returned (.int .i64 e0) ∧ Below w.heap.size w w') :
    Calls Try.prog 41 #[.int .i64 q, .int .i64 n, .int .i64 d] w fun e w' => e = .returned (.tuple #[.int .i64 0, .int .i64 e0]) ∧ Below w.heap.size w w' := by
  have h1 : (e0 != 0) = true := bne_iff_ne.2 h0
  have HC : Hid (Calls Try.prog 47 #[.int .i64 q, .int .i64 n, .int .i64 d] w fun e w' => e = .returned (.int .i64 e0) ∧ Below w.heap.size w w') := hC
  clear hC
  go_enter Try.func41, Try.ntmps41
  go_wp2_with fail
  refine HC.out.mono ?_
  rintro e w1 ⟨rfl, hb⟩
  have H1 : Hid (Below w.heap.size w w1) := hb
  clear hb
  go_wp2
  go_ret2
  exact ⟨rfl, H1.out⟩

set_option maxHeartbeats 2000000 in
set_option maxRecDepth 100000 in
theorem wP_err (q n d e0 : Int) (h0 : e0 ≠ 0) {w : World} (hC : Calls Try.prog 47 #[.int .i64 q, .int .i64 n, .int .i64 d] w fun e w' => e = .returned (.int .i64 e0) ∧ Below w.heap.size w w') :
    Calls Try.prog 42 #[.int .i64 q, .int .i64 n, .int .i64 d] w fun e w' => e = .returned (.tuple #[.int .i64 0, .int .i64 e0]) ∧ Below w.heap.size w w' := by
  have h1 : (e0 != 0) = true := bne_iff_ne.2 h0
  have HC : Hid (Calls Try.prog 47 #[.int .i64 q, .int .i64 n, .int .i64 d] w fun e w' => e = .returned (.int .i64 e0) ∧ Below w.heap.size w w') := hC
  clear hC
  go_enter Try.func42, Try.ntmps42
  go_wp2_with fail
  refine HC.out.mono ?_
  rintro e w1 ⟨rfl, hb⟩
  have H1 : Hid (Below w.heap.size w w1) := hb
  clear hb
  go_wp2
  go_ret2
  exact ⟨rfl, H1.out⟩

set_option maxHeartbeats 2000000 in
set_option maxRecDepth 100000 in
theorem wV_err (q n d e0 : Int) (h0 : e0 ≠ 0) {w : World} (hC : Calls Try.prog 47 #[.int .i64 q, .int .i64 n, .int .i64 d] w fun e w' => e = .returned (.int .i64 e0) ∧ Below w.heap.size w w') :
    Calls Try.prog 43 #[.int .i64 q, .int .i64 n, .int .i64 d] w fun e w' => e = .returned (.tuple #[.int .i64 0, .int .i64 e0]) ∧ Below w.heap.size w w' := by
  have h1 : (e0 != 0) = true := bne_iff_ne.2 h0
  have HC : Hid (Calls Try.prog 47 #[.int .i64 q, .int .i64 n, .int .i64 d] w fun e w' => e = .returned (.int .i64 e0) ∧ Below w.heap.size w w') := hC
  clear hC
  go_enter Try.func43, Try.ntmps43
  go_wp2_with fail
  refine HC.out.mono ?_
  rintro e w1 ⟨rfl, hb⟩
  have H1 : Hid (Below w.heap.size w w1) := hb
  clear hb
  go_wp2
  go_ret2
  exact ⟨rfl, H1.out⟩

set_option maxHeartbeats 2000000 in
set_option maxRecDepth 100000 in
theorem wH_ok (q n d : Nat) (hq : 2 ≤ q) (hq2 : q ≤ 64) (hp : q ^ n ≤ 1073741824) (hd : 1 ≤ d) (hdn : d ≤ n) {w : World} (hC : Calls Try.prog 47 #[.int .i64 (q : Nat), .int .i64 (n : Nat), .int .i64 (d : Nat)] w fun e w' => e = .returned (.int .i64 0) ∧ Below w.heap.size w w') :
    Calls Try.prog 40 #[.int .i64 (q : Nat), .int .i64 (n : Nat), .int .i64 (d : Nat)] w fun e w' => e = .returned (.tuple #[.int .i64 (((q ^ n / bls q n ((d - 1) / 2 + 1) : Nat) : Int)), .int .i64 0]) ∧ Below w.heap.size w w' := by
  have hn30 : n ≤ 30 := pow30 hq hp
  have HC : Hid (Calls Try.prog 47 #[.int .i64 (q : Nat), .int .i64 (n : Nat), .int .i64 (d : Nat)] w fun e w' => e = .returned (.int .i64 0) ∧ Below w.heap.size w w') := hC
  clear hC
  obtain ⟨P, hP⟩ : ∃ P, P = q ^ n := ⟨_, rfl⟩
  have hPb : P ≤ 1073741824 := by rw [hP]; exact hp
  have HPw : Hid (∀ ww : World, Calls Try.prog 37 #[.int .i64 (q : Nat), .int .i64 (n : Nat)] ww fun e w' => e = .returned (.int .i64 (P : Nat)) ∧ w' = ww) := fun ww => by
    rw [hP]; exact wpow_is q n (by omega) hq2 (by omega) hp ww
  obtain ⟨r, hr⟩ : ∃ r, r = (d - 1) / 2 := ⟨_, rfl⟩
  have hr2 : r ≤ n := by omega
  have hdr : Int.tdiv ((d : Int) - 1) 2 = (r : Int) := by
    rw [show (d : Int) - 1 = ((d - 1 : Nat) : Int) by omega, hr]
    rfl
  rw [← hr]
  obtain ⟨B, hB⟩ : ∃ B, B = bls q n (r + 1) := ⟨_, rfl⟩
  have hB0 := hB
  have hBp : 1 ≤ B := by rw [hB]; exact bls_pos _
  have hBb : B ≤ 34359738368 := by
    rw [hB]
    exact Nat.le_trans (bls_le (by omega) _) (Nat.le_trans (Nat.mul_le_mul (show r + 1 ≤ 32 by omega) hp) (by omega))
  have HBw : Hid (∀ ww : World, Calls Try.prog 80 #[.int .i64 (q : Nat), .int .i64 (n : Nat), .int .i64 (r : Nat)] ww fun e w' => e = .returned (.int .i64 (B : Nat)) ∧ w' = ww) := fun ww => by
    rw [hB]; exact wball_any q n (r) hq hq2 hp (by omega) ww
  obtain ⟨Q, hQ⟩ : ∃ Q, Q = P / B := ⟨_, rfl⟩
  have hq3 : Int.tdiv (P : Int) (B : Int) = (Q : Int) := by rw [hQ]; rfl
  have hQb : Q ≤ 1073741824 := by rw [hQ]; exact Nat.le_trans (Nat.div_le_self _ _) hPb
  have hne : (B : Int) ≠ 0 := by omega
  rw [← hP, ← hB, ← hQ]
  clear hP hB hB0 hQ hr hp
  go_enter Try.func40, Try.ntmps40
  go_wp2_with fail
  refine HC.out.mono ?_
  rintro e w1 ⟨rfl, hb⟩
  have H1 : Hid (Below w.heap.size w w1) := hb
  clear hb
  go_wp2_with fail
  refine (HPw.out _).mono ?_
  rintro e w2 ⟨rfl, hw⟩
  have hw := hw.symm
  subst hw
  go_wp2_with fail
  (try simp only [hdr])
  refine (HBw.out _).mono ?_
  rintro e w2 ⟨rfl, hw⟩
  have hw := hw.symm
  subst hw
  go_wp2
  go_ret2
  exact ⟨by first | rfl | simp [hq3], H1.out⟩

set_option maxHeartbeats 2000000 in
set_option maxRecDepth 100000 in
theorem wS_ok (q n d : Nat) (hq : 2 ≤ q) (hq2 : q ≤ 64) (hp : q ^ n ≤ 1073741824) (hd : 1 ≤ d) (hdn : d ≤ n) {w : World} (hC : Calls Try.prog 47 #[.int .i64 (q : Nat), .int .i64 (n : Nat), .int .i64 (d : Nat)] w fun e w' => e = .returned (.int .i64 0) ∧ Below w.heap.size w w') :
    Calls Try.prog 41 #[.int .i64 (q : Nat), .int .i64 (n : Nat), .int .i64 (d : Nat)] w fun e w' => e = .returned (.tuple #[.int .i64 (((q ^ (n - d + 1) : Nat) : Int)), .int .i64 0]) ∧ Below w.heap.size w w' := by
  have hn30 : n ≤ 30 := pow30 hq hp
  have HC : Hid (Calls Try.prog 47 #[.int .i64 (q : Nat), .int .i64 (n : Nat), .int .i64 (d : Nat)] w fun e w' => e = .returned (.int .i64 0) ∧ Below w.heap.size w w') := hC
  clear hC
  have HPw : Hid (∀ ww : World, Calls Try.prog 37 #[.int .i64 (q : Nat), .int .i64 ((n : Int) - (d : Int) + 1)] ww fun e w' => e = .returned (.int .i64 (q ^ (n - d + 1) : Nat)) ∧ w' = ww) := fun ww => by
    rw [show (n : Int) - (d : Int) + 1 = ((n - d + 1 : Nat) : Int) by omega]
    exact wpow_is q (n - d + 1) (by omega) hq2 (by omega) (Nat.le_trans (Nat.pow_le_pow_right (by omega) (by omega)) hp) ww
  clear hp
  go_enter Try.func41, Try.ntmps41
  go_wp2_with fail
  refine HC.out.mono ?_
  rintro e w1 ⟨rfl, hb⟩
  have H1 : Hid (Below w.heap.size w w1) := hb
  clear hb
  go_wp2_with fail
  refine (HPw.out _).mono ?_
  rintro e w2 ⟨rfl, hw⟩
  have hw := hw.symm
  subst hw
  go_wp2
  go_ret2
  exact ⟨rfl, H1.out⟩

/-- What Plotkin's bound tells. -/
def plk (q n d : Nat) : Nat := if n * (q - 1) < q * d then q * d / (q * d - n * (q - 1)) else 0

set_option maxHeartbeats 2000000 in
set_option maxRecDepth 100000 in
theorem wP_ok (q n d : Nat) (hq : 2 ≤ q) (hq2 : q ≤ 64) (hp : q ^ n ≤ 1073741824) (_ : 1 ≤ d) (hdn : d ≤ n) {w : World} (hC : Calls Try.prog 47 #[.int .i64 (q : Nat), .int .i64 (n : Nat), .int .i64 (d : Nat)] w fun e w' => e = .returned (.int .i64 0) ∧ Below w.heap.size w w') :
    Calls Try.prog 42 #[.int .i64 (q : Nat), .int .i64 (n : Nat), .int .i64 (d : Nat)] w fun e w' => e = .returned (.tuple #[.int .i64 (((plk q n d : Nat) : Int)), .int .i64 0]) ∧ Below w.heap.size w w' := by
  have hn30 : n ≤ 30 := pow30 hq hp
  have HC : Hid (Calls Try.prog 47 #[.int .i64 (q : Nat), .int .i64 (n : Nat), .int .i64 (d : Nat)] w fun e w' => e = .returned (.int .i64 0) ∧ Below w.heap.size w w') := hC
  clear hC
  clear hp
  obtain ⟨A, hA⟩ : ∃ A, A = q * d := ⟨_, rfl⟩
  obtain ⟨C, hC2⟩ : ∃ C, C = n * (q - 1) := ⟨_, rfl⟩
  have hAb : A ≤ 64 * 30 := by rw [hA]; exact Nat.mul_le_mul hq2 (by omega)
  have hCb : C ≤ 30 * 64 := by rw [hC2]; exact Nat.mul_le_mul hn30 (by omega)
  have hw1 : IntKind.i64.wrap ((q : Int) * (d : Int)) = (A : Int) := by
    rw [show (q : Int) * (d : Int) = (A : Int) by rw [hA]; simp]
    exact wrap_ka (by omega) (by omega)
  have hw2 : IntKind.i64.wrap ((n : Int) * ((q : Int) - 1)) = (C : Int) := by
    rw [show (q : Int) - 1 = ((q - 1 : Nat) : Int) by omega, show (n : Int) * ((q - 1 : Nat) : Int) = (C : Int) by rw [hC2]; simp]
    exact wrap_ka (by omega) (by omega)
  have HK : Hid (plk q n d = if C < A then A / (A - C) else 0) := by show plk q n d = _; unfold plk; rw [hA, hC2]
  clear hA hC2
  go_enter Try.func42, Try.ntmps42
  by_cases hlt : C < A
  · have HV : Hid (plk q n d = A / (A - C)) := by show _ = _; rw [HK.out, if_pos hlt]
    clear HK
    have hm : ¬ (A : Int) - (C : Int) ≤ 0 := by omega
    obtain ⟨Q, hQ⟩ : ∃ Q, Q = A / (A - C) := ⟨_, rfl⟩
    have hq3 : Int.tdiv (A : Int) ((A : Int) - (C : Int)) = (Q : Int) := by
      rw [show (A : Int) - (C : Int) = ((A - C : Nat) : Int) by omega, hQ]; rfl
    have hQb : Q ≤ 1920 := by rw [hQ]; exact Nat.le_trans (Nat.div_le_self _ _) (by omega)
    have hne : (A : Int) - (C : Int) ≠ 0 := by omega
    have HV2 : Hid (plk q n d = Q) := by show _ = _; rw [HV.out, hQ]
    clear HV hQ
    go_wp2_with fail
    refine HC.out.mono ?_
    rintro e w1 ⟨rfl, hb⟩
    have H1 : Hid (Below w.heap.size w w1) := hb
    clear hb
    go_wp2
    go_ret2
    exact ⟨by rw [HV2.out]; first | rfl | simp [hq3], H1.out⟩
  · have HV : Hid (plk q n d = 0) := by show _ = _; rw [HK.out, if_neg hlt]
    clear HK
    have hm : (A : Int) - (C : Int) ≤ 0 := by omega
    go_wp2_with fail
    refine HC.out.mono ?_
    rintro e w1 ⟨rfl, hb⟩
    have H1 : Hid (Below w.heap.size w w1) := hb
    clear hb
    go_wp2
    go_ret2
    exact ⟨by rw [HV.out]; first | rfl | simp, H1.out⟩

/-- What Varshamov's bound tells. -/
def vrs (q n d : Nat) : Nat := (q ^ n + bls q n d - 1) / bls q n d

set_option maxHeartbeats 2000000 in
set_option maxRecDepth 100000 in
theorem wV_ok (q n d : Nat) (hq : 2 ≤ q) (hq2 : q ≤ 64) (hp : q ^ n ≤ 1073741824) (hd : 1 ≤ d) (hdn : d ≤ n) {w : World} (hC : Calls Try.prog 47 #[.int .i64 (q : Nat), .int .i64 (n : Nat), .int .i64 (d : Nat)] w fun e w' => e = .returned (.int .i64 0) ∧ Below w.heap.size w w') :
    Calls Try.prog 43 #[.int .i64 (q : Nat), .int .i64 (n : Nat), .int .i64 (d : Nat)] w fun e w' => e = .returned (.tuple #[.int .i64 (((vrs q n d : Nat) : Int)), .int .i64 0]) ∧ Below w.heap.size w w' := by
  have hn30 : n ≤ 30 := pow30 hq hp
  have HC : Hid (Calls Try.prog 47 #[.int .i64 (q : Nat), .int .i64 (n : Nat), .int .i64 (d : Nat)] w fun e w' => e = .returned (.int .i64 0) ∧ Below w.heap.size w w') := hC
  clear hC
  obtain ⟨P, hP⟩ : ∃ P, P = q ^ n := ⟨_, rfl⟩
  have hPb : P ≤ 1073741824 := by rw [hP]; exact hp
  have HPw : Hid (∀ ww : World, Calls Try.prog 37 #[.int .i64 (q : Nat), .int .i64 (n : Nat)] ww fun e w' => e = .returned (.int .i64 (P : Nat)) ∧ w' = ww) := fun ww => by
    rw [hP]; exact wpow_is q n (by omega) hq2 (by omega) hp ww
  obtain ⟨d', hd'⟩ : ∃ d', d = d' + 1 := ⟨d - 1, by omega⟩
  obtain ⟨B, hB⟩ : ∃ B, B = bls q n d := ⟨_, rfl⟩
  have hBp : 1 ≤ B := by rw [hB, hd']; exact bls_pos _
  have hBb : B ≤ 34359738368 := by
    rw [hB]
    exact Nat.le_trans (bls_le (by omega) _) (Nat.le_trans (Nat.mul_le_mul (show d ≤ 32 by omega) hp) (by omega))
  have HBw : Hid (∀ ww : World, Calls Try.prog 80 #[.int .i64 (q : Nat), .int .i64 (n : Nat), .int .i64 ((d : Int) - 1)] ww fun e w' => e = .returned (.int .i64 (B : Nat)) ∧ w' = ww) := fun ww => by
    rw [show (d : Int) - 1 = ((d' : Nat) : Int) by omega, hB, hd']; exact wball_any q n d' hq hq2 hp (by omega) ww
  have HU : Hid (∀ ww : World, Calls Try.prog 81 #[.int .i64 (P : Nat), .int .i64 (B : Nat)] ww fun e w' => e = .returned (.int .i64 ((P + B - 1) / B : Nat)) ∧ w' = ww) := fun ww => roundUp_any P B hBp (by omega) (by omega) ww
  have HV : Hid (vrs q n d = (P + B - 1) / B) := by show vrs q n d = _; unfold vrs; rw [hP, hB]
  clear hP hB hd' hp
  go_enter Try.func43, Try.ntmps43
  go_wp2_with fail
  refine HC.out.mono ?_
  rintro e w1 ⟨rfl, hb⟩
  have H1 : Hid (Below w.heap.size w w1) := hb
  clear hb
  go_wp2_with fail
  refine (HPw.out _).mono ?_
  rintro e w2 ⟨rfl, hw⟩
  have hw := hw.symm
  subst hw
  go_wp2_with fail
  refine (HBw.out _).mono ?_
  rintro e w2 ⟨rfl, hw⟩
  have hw := hw.symm
  subst hw
  go_wp2_with fail
  refine (HU.out _).mono ?_
  rintro e w2 ⟨rfl, hw⟩
  have hw := hw.symm
  subst hw
  go_wp2
  go_ret2
  exact ⟨by rw [HV.out]; rfl, H1.out⟩
end Go.Proofs.Ytnjbnamcedfjaaa
