/- Weights: Shows of the program. -/
import Derived.Test.YtnjbnamcedfjaaaZKA6
namespace Go.Proofs.Ytnjbnamcedfjaaa
open Go.RowKit Go.Sort

theorem results_four {fn : Func} {t u v x : Tmp} (h : fn.results = #[.tmp t, .tmp u, .tmp v, .tmp x]) (tmps : Array Value) (P : Program) (w : World) :
    (results fn tmps).run P w = .ok (.tuple #[tmps.getD t undef, tmps.getD u undef, tmps.getD v undef, tmps.getD x undef]) w := by
  simp [results, h]

def outB (z : Nat → Int) (M : Int) (n : Nat) : Bool := anyB (fun j => decide (z j < 0) || decide (M < z j)) n
theorem outB_no {z : Nat → Int} {M : Int} : ∀ {n : Nat}, outB z M n = false → ∀ j, j < n → 0 ≤ z j ∧ z j ≤ M
  | 0, _, j, hj => absurd hj (by omega)
  | n + 1, h, j, hj => by
    have h2 : (outB z M n || (decide (z n < 0) || decide (M < z n))) = false := h
    rw [Bool.or_eq_false_iff, Bool.or_eq_false_iff, decide_eq_false_iff_not, decide_eq_false_iff_not] at h2
    by_cases e : j = n
    · subst e; omega
    · exact outB_no h2.1 j (by omega)

set_option maxHeartbeats 2000000 in
theorem o1_any (x M : Int) {B : Nat} {w : World} (hc : w.cell? ⟨B, 0, none⟩ = some (.int .i64 M)) :
    Calls Try.prog 84 #[.int .i64 x, .pointer (some ⟨B, 0, none⟩)] w fun e w' => e = .returned (.bool (decide (x < 0) || decide (M < x))) ∧ w' = w := by
  by_cases h1 : x < 0
  · go_enter Try.func84, Try.ntmps84
    go_wp2
    go_ret
    exact ⟨by simp [h1], rfl⟩
  · by_cases h2 : M < x
    · have h2b : x > M := h2
      go_enter Try.func84, Try.ntmps84
      go_wp2
      go_ret
      exact ⟨by simp, rfl⟩
    · have h2b : ¬ x > M := h2
      go_enter Try.func84, Try.ntmps84
      go_wp2
      go_ret
      exact ⟨by simp [h1, h2], rfl⟩

set_option maxHeartbeats 2000000 in
set_option maxRecDepth 100000 in
theorem outside_any {ao : Option Addr} {n cap : Nat} {z : Nat → Int} (M : Int) {w : World} (hs : SlZ ao n z w) (hl : LtB ao w.heap.size) (hn : n ≤ 1000000) :
    Calls Try.prog 48 #[.slice ao n cap, .int .i64 M] w fun e w' => e = .returned (.bool (outB z M n)) ∧ Below w.heap.size w w' := by
  have hal : Below w.heap.size w (w.alloc (.cells #[.int .i64 M] 3)) := (Below.refl _ _).alloc (Nat.le_refl _) _
  have HC : Hid (Calls Try.prog 58 #[.slice ao n cap, .func (.func 84) #[] #[.pointer (some ⟨w.heap.size, 0, none⟩)]] (w.alloc (.cells #[.int .i64 M] 3)) fun e w' => e = .returned (.bool (outB z M n)) ∧ w' = w.alloc (.cells #[.int .i64 M] 3)) := by
    refine containsFn_any enters_o1 (hs.below hal hl) hn (fun j _ => ?_)
    have e : (#[Value.int .i64 (z j)] ++ #[Value.pointer (some ⟨w.heap.size, 0, none⟩)] : Array Value) = #[.int .i64 (z j), .pointer (some ⟨w.heap.size, 0, none⟩)] := rfl
    rw [e]
    exact o1_any (z j) M (by simp)
  have HL : Hid (Below w.heap.size w (w.alloc (.cells #[.int .i64 M] 3))) := hal
  clear hs hl hal
  go_enter Try.func48, Try.ntmps48
  go_wp2_with (go_at_call 58; refine HC.out.mono ?_; rintro e w' ⟨rfl, rfl⟩)
  go_ret
  exact ⟨rfl, HL.out⟩

/-- What is said of a distance. -/
def cdk (e0 n d : Int) : Int := if e0 ≠ 0 then e0 else if d < 1 ∨ n < d then 10 else 0
set_option maxHeartbeats 2000000 in
set_option maxRecDepth 100000 in
theorem cdist_any (q n d e0 : Int) {w : World} (hC : Calls Try.prog 11 #[.int .i64 q, .int .i64 n] w fun e w' => e = .returned (.int .i64 e0) ∧ Below w.heap.size w w') :
    Calls Try.prog 47 #[.int .i64 q, .int .i64 n, .int .i64 d] w fun e w' => e = .returned (.int .i64 (cdk e0 n d)) ∧ Below w.heap.size w w' := by
  have HC : Hid (Calls Try.prog 11 #[.int .i64 q, .int .i64 n] w fun e w' => e = .returned (.int .i64 e0) ∧ Below w.heap.size w w') := hC
  clear hC
  go_enter Try.func47, Try.ntmps47
  go_wp2_with fail
  refine HC.out.mono ?_
  rintro e w1 ⟨rfl, hb⟩
  have H1 : Hid (Below w.heap.size w w1) := hb
  clear hb
  by_cases h0 : e0 = 0
  · subst h0
    by_cases h1 : d < 1
    · have HE : Hid (cdk 0 n d = 10) := by show _ = _; unfold cdk; rw [if_neg (by simp), if_pos (Or.inl h1)]
      go_wp2
      go_ret
      exact ⟨by rw [HE.out]; rfl, H1.out⟩
    · by_cases h2 : n < d
      · have h2b : d > n := h2
        have HE : Hid (cdk 0 n d = 10) := by show _ = _; unfold cdk; rw [if_neg (by simp), if_pos (Or.inr h2)]
        go_wp2
        go_ret
        exact ⟨by rw [HE.out]; rfl, H1.out⟩
      · have h2b : ¬ d > n := h2
        have HE : Hid (cdk 0 n d = 0) := by show _ = _; unfold cdk; rw [if_neg (by simp), if_neg (by omega)]
        go_wp2
        go_ret
        exact ⟨by rw [HE.out]; rfl, H1.out⟩
  · have hz : (e0 != 0) = true := by rw [bne_iff_ne]; exact h0
    have HE : Hid (cdk e0 n d = e0) := by show _ = _; unfold cdk; rw [if_pos h0]
    clear h0
    go_wp2
    go_ret
    exact ⟨by rw [HE.out]; rfl, H1.out⟩

/-- The world with the boxes of Shows. -/
def shw (w : World) (q n : Int) (v : Value) : World := ((w.alloc (.cells #[.int .i64 q] 3)).alloc (.cells #[.int .i64 n] 3)).alloc (.cells #[v] 22)
theorem shw_size (w : World) (q n : Int) (v : Value) : (shw w q n v).heap.size = w.heap.size + 3 := by unfold shw; simp
theorem shw_below (w : World) (q n : Int) (v : Value) : Below w.heap.size w (shw w q n v) := by
  unfold shw
  exact (((Below.refl _ _).alloc (Nat.le_refl _) _).alloc (by simp) _).alloc (by simp; omega) _
theorem shw_cells (w : World) (q n : Int) (v : Value) : (shw w q n v).cell? ⟨w.heap.size, 0, none⟩ = some (.int .i64 q) ∧ (shw w q n v).cell? ⟨w.heap.size + 1, 0, none⟩ = some (.int .i64 n) ∧ (shw w q n v).cell? ⟨w.heap.size + 1 + 1, 0, none⟩ = some v := by
  unfold shw
  obtain ⟨w1, h1⟩ : ∃ w1, w1 = w.alloc (.cells #[.int .i64 q] 3) := ⟨_, rfl⟩
  have s1 : w1.heap.size = w.heap.size + 1 := by rw [h1]; simp
  have c1 : w1.cell? ⟨w.heap.size, 0, none⟩ = some (.int .i64 q) := by rw [h1]; simp
  rw [← h1]
  obtain ⟨w2, h2⟩ : ∃ w2, w2 = w1.alloc (.cells #[.int .i64 n] 3) := ⟨_, rfl⟩
  have s2 : w2.heap.size = w1.heap.size + 1 := by rw [h2]; simp
  have b2 : Below w1.heap.size w1 w2 := by rw [h2]; exact (Below.refl _ _).alloc (Nat.le_refl _) _
  have c2 : w2.cell? ⟨w1.heap.size, 0, none⟩ = some (.int .i64 n) := by rw [h2]; simp
  rw [← h2]
  obtain ⟨w3, h3⟩ : ∃ w3, w3 = w2.alloc (.cells #[v] 22) := ⟨_, rfl⟩
  have b3 : Below w2.heap.size w2 w3 := by rw [h3]; exact (Below.refl _ _).alloc (Nat.le_refl _) _
  have c3 : w3.cell? ⟨w2.heap.size, 0, none⟩ = some v := by rw [h3]; simp
  rw [← h3]
  refine ⟨?_, ?_, ?_⟩
  · exact (((bcell b3).1 w.heap.size 0 (by omega)).trans ((bcell b2).1 w.heap.size 0 (by omega))).trans c1
  · rw [← s1]; exact ((bcell b3).1 w1.heap.size 0 (by omega)).trans c2
  · rw [← s1, ← s2]; exact c3

set_option maxHeartbeats 2000000 in
set_option maxRecDepth 100000 in
theorem shows_e (q n d e0 : Int) (h0 : e0 ≠ 0) (ao : Option Addr) (N cap : Nat) {w : World} (hC : ∀ wx, Calls Try.prog 47 #[.int .i64 q, .int .i64 n, .int .i64 d] wx fun e w' => e = .returned (.int .i64 e0) ∧ Below wx.heap.size wx w') :
    Calls Try.prog 16 #[.int .i64 q, .int .i64 n, .int .i64 d, .slice ao N cap] w fun e w' => e = .returned (.tuple #[.int .i64 0, .int .i64 0, .bool false, .int .i64 e0]) ∧ Below w.heap.size w w' := by
  obtain ⟨wa, hwa⟩ : ∃ wa, wa = shw w q n (.slice ao N cap) := ⟨_, rfl⟩
  have HC : Hid (Calls Try.prog 47 #[.int .i64 q, .int .i64 n, .int .i64 d] wa fun e w' => e = .returned (.int .i64 e0) ∧ Below wa.heap.size wa w') := hC wa
  have HA : Hid (Below w.heap.size w wa) := by rw [hwa]; exact shw_below _ _ _ _
  unfold shw at hwa
  clear hC
  have hz : (e0 != 0) = true := by rw [bne_iff_ne]; exact h0
  clear h0
  go_enter Try.func16, Try.ntmps16
  go_wp2_with fail
  rw [← hwa]
  refine HC.out.mono ?_
  rintro e w1 ⟨rfl, hb⟩
  have H1 : Hid (Below w.heap.size w w1) := bel_up' HA.out hb
  clear hb
  go_wp2
  refine bodyPost_ret (results_four rfl _ _ _) rfl ?_
  exact ⟨rfl, H1.out⟩
end Go.Proofs.Ytnjbnamcedfjaaa
