/- Texts of ours, one behind the other: KA7 KA8 KA9 KA10 KA11 KA12 KA13. -/
import Derived.Test.YtnjbnamcedfjaaaZKA4
import Derived.Laws.EntriesVeiled
import Derived.Test.YtnjbnamcedfjaaaZL1
import Derived.Test.YtnjbnamcedfjaaaZV1
import Derived.Test.YtnjbnamcedfjaaaZL10
/- Weights: Shows of the program. -/
namespace Go.Proofs.Ytnjbnamcedfjaaa
open Go.RowKit Go.Sort

def outB (z : Nat → Int) (M : Int) (n : Nat) : Bool := anyB (fun j => decide (z j < 0) || decide (M < z j)) n
theorem outB_no {z : Nat → Int} {M : Int} : ∀ {n : Nat}, outB z M n = false → ∀ j, j < n → 0 ≤ z j ∧ z j ≤ M
  | 0, _, j, hj => absurd hj (by omega)
  | n + 1, h, j, hj => by
    have h2 : (outB z M n || (decide (z n < 0) || decide (M < z n))) = false := h
    rw [Bool.or_eq_false_iff, Bool.or_eq_false_iff, decide_eq_false_iff_not, decide_eq_false_iff_not] at h2
    by_cases e : j = n
    · subst e; omega
    · exact outB_no h2.1 j (by omega)

set_option maxHeartbeats 2000000 in
theorem o1_any (x M : Int) {B : Nat} {w : World} (hc : w.cell? ⟨B, 0, none⟩ = some (.int .i64 M)) :
    Calls Try.prog 84 #[.int .i64 x, .pointer (some ⟨B, 0, none⟩)] w fun e w' => e = .returned (.bool (decide (x < 0) || decide (M < x))) ∧ w' = w := by
  by_cases h1 : x < 0
  · go_enter Try.func84, Try.ntmps84
    go_wp2
    go_ret
    exact ⟨by simp [h1], rfl⟩
  · by_cases h2 : M < x
    · have h2b : x > M := h2
      go_enter Try.func84, Try.ntmps84
      go_wp2
      go_ret
      exact ⟨by simp, rfl⟩
    · have h2b : ¬ x > M := h2
      go_enter Try.func84, Try.ntmps84
      go_wp2
      go_ret
      exact ⟨by simp [h1, h2], rfl⟩

set_option maxHeartbeats 2000000 in
set_option maxRecDepth 100000 in
theorem outside_any {ao : Option Addr} {n cap : Nat} {z : Nat → Int} (M : Int) {w : World} (hs : SlZ ao n z w) (hl : LtB ao w.heap.size) (hn : n ≤ 1000000) :
    Calls Try.prog 48 #[.slice ao n cap, .int .i64 M] w fun e w' => e = .returned (.bool (outB z M n)) ∧ Below w.heap.size w w' := by
  have hal : Below w.heap.size w (w.alloc (.cells #[.int .i64 M] 3)) := (Below.refl _ _).alloc (Nat.le_refl _) _
  have HC : Hid (Calls Try.prog 58 #[.slice ao n cap, .func (.func 84) #[] #[.pointer (some ⟨w.heap.size, 0, none⟩)]] (w.alloc (.cells #[.int .i64 M] 3)) fun e w' => e = .returned (.bool (outB z M n)) ∧ w' = w.alloc (.cells #[.int .i64 M] 3)) := by
    refine containsFn_any enters_o1 (hs.below hal hl) hn (fun j _ => ?_)
    have e : (#[Value.int .i64 (z j)] ++ #[Value.pointer (some ⟨w.heap.size, 0, none⟩)] : Array Value) = #[.int .i64 (z j), .pointer (some ⟨w.heap.size, 0, none⟩)] := rfl
    rw [e]
    exact o1_any (z j) M (by simp)
  have HL : Hid (Below w.heap.size w (w.alloc (.cells #[.int .i64 M] 3))) := hal
  clear hs hl hal
  go_enter Try.func48, Try.ntmps48
  go_wp2_with (go_at_call 58; refine HC.out.mono ?_; rintro e w' ⟨rfl, rfl⟩)
  go_ret
  exact ⟨rfl, HL.out⟩

/-- What is said of a distance. -/
def cdk (e0 n d : Int) : Int := if e0 ≠ 0 then e0 else if d < 1 ∨ n < d then 10 else 0
set_option maxHeartbeats 2000000 in
set_option maxRecDepth 100000 in
theorem cdist_any (q n d e0 : Int) {w : World} (hC : Calls Try.prog 11 #[.int .i64 q, .int .i64 n] w fun e w' => e = .returned (.int .i64 e0) ∧ Below w.heap.size w w') :
    Calls Try.prog 47 #[.int .i64 q, .int .i64 n, .int .i64 d] w fun e w' => e = .returned (.int .i64 (cdk e0 n d)) ∧ Below w.heap.size w w' := by
  have HC : Hid (Calls Try.prog 11 #[.int .i64 q, .int .i64 n] w fun e w' => e = .returned (.int .i64 e0) ∧ Below w.heap.size w w') := hC
  clear hC
  go_enter Try.func47, Try.ntmps47
  go_wp2_with fail
  refine HC.out.mono ?_
  rintro e w1 ⟨rfl, hb⟩
  have H1 : Hid (Below w.heap.size w w1) := hb
  clear hb
  by_cases h0 : e0 = 0
  · subst h0
    by_cases h1 : d < 1
    · have HE : Hid (cdk 0 n d = 10) := by show _ = _; unfold cdk; rw [if_neg (by simp), if_pos (Or.inl h1)]
      go_wp2
      go_ret
      exact ⟨by rw [HE.out]; rfl, H1.out⟩
    · by_cases h2 : n < d
      · have h2b : d > n := h2
        have HE : Hid (cdk 0 n d = 10) := by show _ = _; unfold cdk; rw [if_neg (by simp), if_pos (Or.inr h2)]
        go_wp2
        go_ret
        exact ⟨by rw [HE.out]; rfl, H1.out⟩
      · have h2b : ¬ d > n := h2
        have HE : Hid (cdk 0 n d = 0) := by show _ = _; unfold cdk; rw [if_neg (by simp), if_neg (by omega)]
        go_wp2
        go_ret
        exact ⟨by rw [HE.out]; rfl, H1.out⟩
  · have hz : (e0 != 0) = true := by rw [bne_iff_ne]; exact h0
    have HE : Hid (cdk e0 n d = e0) := by show _ = _; unfold cdk; rw [if_pos h0]
    clear h0
    go_wp2
    go_ret
    exact ⟨by rw [HE.out]; rfl, H1.out⟩

end Go.Proofs.Ytnjbnamcedfjaaa

/- Weights: Shows of the program where the lengths may be. -/
namespace Go.Proofs.Ytnjbnamcedfjaaa
open Go.RowKit Go.Sort

end Go.Proofs.Ytnjbnamcedfjaaa

/- Weights: the reference's CountMay. -/
namespace Go.Proofs.Ytnjbnamcedfjaaa
open Go.RowKit Go.Sort

set_option maxHeartbeats 2000000 in
set_option maxRecDepth 100000 in
theorem rcount_any {D : FD} (hD : D ∈ fieldsL) (n : Int) (hn : n ≤ 9223372036854775807) (w : World) :
    Calls Try.prog 8 #[.int .i64 D.q, .int .i64 n] w fun e w' => e = .returned (.int .i64 (D.wck n)) ∧ Below w.heap.size w w' := by
  have HD : Hid (D ∈ fieldsL) := hD
  have h2 := (fld hD).q2
  have h64 := (fld hD).q64
  clear hD
  go_enter Try.func8, Try.ntmps8
  go_wp2_with fail
  refine (rfield_sl HD.out w).mono ?_
  rintro e w1 ⟨gm, cm, rfl, _, hb1⟩
  unfold rf
  obtain ⟨wb, hwb⟩ : ∃ wb, wb = w1.alloc (.cells #[.int .i64 D.q, .int .i64 D.p, .int .i64 D.m, .int .i64 D.gen, .slice (some ⟨gm, 0, none⟩) (D.m + 1) cm] 40) := ⟨_, rfl⟩
  have hbb : Below w1.heap.size w1 wb := by rw [hwb]; exact (Below.refl _ _).alloc (Nat.le_refl _) _
  have H1 : Hid (Below w.heap.size w wb) := bel_up' hb1 hbb
  clear hb1 hbb
  by_cases h1 : n < 1
  · have HE : Hid (D.wck n = 4) := by show D.wck n = 4; unfold FD.wck; rw [if_pos h1]
    go_wp2
    rw [← hwb]
    go_ret
    exact ⟨by rw [HE.out]; rfl, H1.out⟩
  · have HP : Hid (Calls Try.prog 34 #[.int .i64 (D.q : Nat), .int .i64 n] wb (PwR D.q n wb)) := rpower_any D.q n h2 h64 (by omega) hn wb
    go_wp2_with fail
    rw [← hwb]
    clear hwb
    refine HP.out.mono ?_
    rintro e w' ⟨v, rfl, hw, hv⟩
    have hw := hw.symm
    subst hw
    rcases hv with ⟨hp, hv⟩ | ⟨hp, hv⟩
    · have hvb : ¬ v < 0 := by omega
      have HE : Hid (D.wck n = 0) := by show D.wck n = 0; unfold FD.wck; rw [if_neg (by omega), if_pos hp]
      clear hp hv
      go_wp2
      go_ret
      exact ⟨by rw [HE.out]; rfl, H1.out⟩
    · have hvb : v < 0 := by omega
      have HE : Hid (D.wck n = 4) := by show D.wck n = 4; unfold FD.wck; rw [if_neg (by omega), if_neg (by omega)]
      clear hp hv
      go_wp2
      go_ret
      exact ⟨by rw [HE.out]; rfl, H1.out⟩
set_option maxHeartbeats 1000000 in
theorem rcount_none (q : Int) (h : ∀ D ∈ fieldsL, (D.q : Int) ≠ q) (n : Int) (w : World) :
    Calls Try.prog 8 #[.int .i64 q, .int .i64 n] w fun e w' => e = .returned (.int .i64 1) ∧ Below w.heap.size w w' := by
  have HN : Hid (∀ D ∈ fieldsL, (D.q : Int) ≠ q) := h
  clear h
  go_enter Try.func8, Try.ntmps8
  go_wp2_with fail
  refine (rfield_none q w HN.out).mono ?_
  rintro e w1 ⟨rfl, hb1⟩
  have HW : Hid (Below w.heap.size w w1) := hb1
  clear hb1
  unfold rf0
  go_wp2
  go_ret
  exact ⟨rfl, by first | exact HW.out | exact HW.out.alloc HW.out.size _⟩
end Go.Proofs.Ytnjbnamcedfjaaa

/- WeightsShow's walk where something is wrong (printed by make/ka10.py). -/
namespace Go.Proofs.Ytnjbnamcedfjaaa
open Go.RowKit Go.Sort

end Go.Proofs.Ytnjbnamcedfjaaa

/- WeightsShow's walk where the lengths may be (printed by make/ka11.py). -/
namespace Go.Proofs.Ytnjbnamcedfjaaa
open Go.RowKit Go.Sort
theorem SlZ.cell {b off n : Nat} {z : Nat → Int} {w : World} (h : SlZ (some ⟨b, off, none⟩) n z w) {j : Nat} (hj : j < n) : w.cell? ⟨b, off + j, none⟩ = some (.int .i64 (z j)) := by
  obtain ⟨b', off', e, hc⟩ := h j hj
  cases e
  exact hc

end Go.Proofs.Ytnjbnamcedfjaaa

/- WeightsShow's walk where Delsarte's numbers are asked (printed by make/ka12.py). -/
namespace Go.Proofs.Ytnjbnamcedfjaaa
open Go.RowKit Go.Sort
end Go.Proofs.Ytnjbnamcedfjaaa

/- WeightsShow's walk, whole. -/
namespace Go.Proofs.Ytnjbnamcedfjaaa
open Go.RowKit Go.Sort

theorem cdk_err {e0 n d : Int} (h : e0 ≠ 0) : cdk e0 n d = e0 := by unfold cdk; rw [if_pos h]
theorem cdk_place {n d : Int} (h : d < 1 ∨ n < d) : cdk 0 n d = 10 := by unfold cdk; rw [if_neg (by simp), if_pos h]
theorem cdk_ok {n d : Int} (h1 : 1 ≤ d) (h2 : d ≤ n) : cdk 0 n d = 0 := by unfold cdk; rw [if_neg (by simp), if_neg (by omega)]

end Go.Proofs.Ytnjbnamcedfjaaa
