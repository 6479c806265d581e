/- WeightsShow's walk where something is wrong (printed by make/ka10.py). -/
import Derived.Test.YtnjbnamcedfjaaaZKA9
namespace Go.Proofs.Ytnjbnamcedfjaaa
open Go.RowKit Go.Sort

set_option maxHeartbeats 4000000 in
set_option maxRecDepth 100000 in
theorem ws_err (q n d e0 : Int) (h0 : e0 ≠ 0) {ao : Option Addr} {N cap : Nat} {w : World} (hN : N ≤ 100) (hK : ∀ wx, Calls Try.prog 8 #[.int .i64 q, .int .i64 n] wx fun e w' => e = .returned (.int .i64 e0) ∧ Below wx.heap.size wx w')
    (hS : ∀ wx, Below w.heap.size w wx → Calls Try.prog 16 #[.int .i64 q, .int .i64 n, .int .i64 d, .slice ao N cap] wx fun e w' => e = .returned (.tuple #[.int .i64 0, .int .i64 0, .bool false, .int .i64 e0]) ∧ Below wx.heap.size wx w') :
    Calls Try.prog 4 #[.int .i64 q, .int .i64 n, .int .i64 d, .slice ao N cap] w fun e w' => e = .returned (.bool true) ∧ Below w.heap.size w w' := by
  have HK : Hid (∀ wx, Calls Try.prog 8 #[.int .i64 q, .int .i64 n] wx fun e w' => e = .returned (.int .i64 e0) ∧ Below wx.heap.size wx w') := hK
  have HS : Hid (∀ wx, Below w.heap.size w wx → Calls Try.prog 16 #[.int .i64 q, .int .i64 n, .int .i64 d, .slice ao N cap] wx fun e w' => e = .returned (.tuple #[.int .i64 0, .int .i64 0, .bool false, .int .i64 e0]) ∧ Below wx.heap.size wx w') := hS
  clear hK hS
  have hNb : ¬ (N : Int) > 100 := by omega
  have hNb2 : ¬ (100 : Int) < (N : Int) := by omega
  have hz : (e0 == 0) = false := by rw [beq_eq_false_iff_ne]; exact h0
  clear h0
  go_enter Try.func4, Try.ntmps4
  go_wp2_with fail
  refine (HK.out _).mono ?_
  rintro e w1 ⟨rfl, hb⟩
  have H1 : Hid (Below w.heap.size w w1) := hb
  clear hb
  go_wp2
  go_loopw [9, 10] (fun ve vi wr => ve = .int .i64 e0 ∧ vi = .int .i64 0 ∧ Hid (Below w.heap.size w wr)) (fun _ _ _ => 0)
  case atStart => exact ⟨by first | rfl | trivial, rfl, H1.out⟩
  case round =>
    obtain ⟨rfl, rfl, HV⟩ := hrel
    clear H1
    by_cases hN0 : (0 : Int) < (N : Int)
    · go_wp2
      go_loopw [11, 12, 13] (fun vu vo vx wr => vu = .int .i64 0 ∧ vo = .bool false ∧ vx = .int .i64 0 ∧ Hid (Below w.heap.size w wr)) (fun _ _ _ _ => 0)
      case atStart => exact ⟨rfl, rfl, rfl, HV.out⟩
      case round =>
        obtain ⟨rfl, rfl, rfl, HV2⟩ := hrel
        by_cases hn0 : (0 : Int) ≤ n
        · go_wp2_with fail
          refine (HS.out _ HV2.out).mono ?_
          rintro e w5 ⟨rfl, hb⟩
          have H5 : Hid (Below w.heap.size w w5) := bel_up' HV2.out hb
          clear hb
          go_wp2
          go_ret
          exact ⟨by simp, H5.out⟩
        · go_wp2_with fail
          refine (HS.out _ HV2.out).mono ?_
          rintro e w5 ⟨rfl, hb⟩
          have H5 : Hid (Below w.heap.size w w5) := bel_up' HV2.out hb
          clear hb
          go_wp2
          go_ret
          exact ⟨by simp, H5.out⟩
    · go_wp2
      go_loopw [11, 12, 13] (fun vu vo vx wr => vu = .int .i64 0 ∧ vo = .bool false ∧ vx = .int .i64 0 ∧ Hid (Below w.heap.size w wr)) (fun _ _ _ _ => 0)
      case atStart => exact ⟨rfl, rfl, rfl, HV.out⟩
      case round =>
        obtain ⟨rfl, rfl, rfl, HV2⟩ := hrel
        by_cases hn0 : (0 : Int) ≤ n
        · go_wp2_with fail
          refine (HS.out _ HV2.out).mono ?_
          rintro e w5 ⟨rfl, hb⟩
          have H5 : Hid (Below w.heap.size w w5) := bel_up' HV2.out hb
          clear hb
          go_wp2
          go_ret
          exact ⟨by simp, H5.out⟩
        · go_wp2_with fail
          refine (HS.out _ HV2.out).mono ?_
          rintro e w5 ⟨rfl, hb⟩
          have H5 : Hid (Below w.heap.size w w5) := bel_up' HV2.out hb
          clear hb
          go_wp2
          go_ret
          exact ⟨by simp, H5.out⟩

set_option maxHeartbeats 4000000 in
set_option maxRecDepth 100000 in
theorem ws_dlow (q n d : Int) (h1 : d < 1) {ao : Option Addr} {N cap : Nat} {w : World} (hN : N ≤ 100) (hK : ∀ wx, Calls Try.prog 8 #[.int .i64 q, .int .i64 n] wx fun e w' => e = .returned (.int .i64 0) ∧ Below wx.heap.size wx w')
    (hS : ∀ wx, Below w.heap.size w wx → Calls Try.prog 16 #[.int .i64 q, .int .i64 n, .int .i64 d, .slice ao N cap] wx fun e w' => e = .returned (.tuple #[.int .i64 0, .int .i64 0, .bool false, .int .i64 10]) ∧ Below wx.heap.size wx w') :
    Calls Try.prog 4 #[.int .i64 q, .int .i64 n, .int .i64 d, .slice ao N cap] w fun e w' => e = .returned (.bool true) ∧ Below w.heap.size w w' := by
  have HK : Hid (∀ wx, Calls Try.prog 8 #[.int .i64 q, .int .i64 n] wx fun e w' => e = .returned (.int .i64 0) ∧ Below wx.heap.size wx w') := hK
  have HS : Hid (∀ wx, Below w.heap.size w wx → Calls Try.prog 16 #[.int .i64 q, .int .i64 n, .int .i64 d, .slice ao N cap] wx fun e w' => e = .returned (.tuple #[.int .i64 0, .int .i64 0, .bool false, .int .i64 10]) ∧ Below wx.heap.size wx w') := hS
  clear hK hS
  have hNb : ¬ (N : Int) > 100 := by omega
  have hNb2 : ¬ (100 : Int) < (N : Int) := by omega
  go_enter Try.func4, Try.ntmps4
  go_wp2_with fail
  refine (HK.out _).mono ?_
  rintro e w1 ⟨rfl, hb⟩
  have H1 : Hid (Below w.heap.size w w1) := hb
  clear hb
  go_wp2
  go_loopw [9, 10] (fun ve vi wr => ve = .int .i64 10 ∧ vi = .int .i64 0 ∧ Hid (Below w.heap.size w wr)) (fun _ _ _ => 0)
  case atStart => exact ⟨by first | rfl | trivial, rfl, H1.out⟩
  case round =>
    obtain ⟨rfl, rfl, HV⟩ := hrel
    clear H1
    by_cases hN0 : (0 : Int) < (N : Int)
    · go_wp2
      go_loopw [11, 12, 13] (fun vu vo vx wr => vu = .int .i64 0 ∧ vo = .bool false ∧ vx = .int .i64 0 ∧ Hid (Below w.heap.size w wr)) (fun _ _ _ _ => 0)
      case atStart => exact ⟨rfl, rfl, rfl, HV.out⟩
      case round =>
        obtain ⟨rfl, rfl, rfl, HV2⟩ := hrel
        by_cases hn0 : (0 : Int) ≤ n
        · go_wp2_with fail
          refine (HS.out _ HV2.out).mono ?_
          rintro e w5 ⟨rfl, hb⟩
          have H5 : Hid (Below w.heap.size w w5) := bel_up' HV2.out hb
          clear hb
          go_wp2
          go_ret
          exact ⟨by simp, H5.out⟩
        · go_wp2_with fail
          refine (HS.out _ HV2.out).mono ?_
          rintro e w5 ⟨rfl, hb⟩
          have H5 : Hid (Below w.heap.size w w5) := bel_up' HV2.out hb
          clear hb
          go_wp2
          go_ret
          exact ⟨by simp, H5.out⟩
    · go_wp2
      go_loopw [11, 12, 13] (fun vu vo vx wr => vu = .int .i64 0 ∧ vo = .bool false ∧ vx = .int .i64 0 ∧ Hid (Below w.heap.size w wr)) (fun _ _ _ _ => 0)
      case atStart => exact ⟨rfl, rfl, rfl, HV.out⟩
      case round =>
        obtain ⟨rfl, rfl, rfl, HV2⟩ := hrel
        by_cases hn0 : (0 : Int) ≤ n
        · go_wp2_with fail
          refine (HS.out _ HV2.out).mono ?_
          rintro e w5 ⟨rfl, hb⟩
          have H5 : Hid (Below w.heap.size w w5) := bel_up' HV2.out hb
          clear hb
          go_wp2
          go_ret
          exact ⟨by simp, H5.out⟩
        · go_wp2_with fail
          refine (HS.out _ HV2.out).mono ?_
          rintro e w5 ⟨rfl, hb⟩
          have H5 : Hid (Below w.heap.size w w5) := bel_up' HV2.out hb
          clear hb
          go_wp2
          go_ret
          exact ⟨by simp, H5.out⟩

set_option maxHeartbeats 4000000 in
set_option maxRecDepth 100000 in
theorem ws_dhigh (q n d : Int) (h1 : ¬ d < 1) (h2 : n < d) {ao : Option Addr} {N cap : Nat} {w : World} (hN : N ≤ 100) (hK : ∀ wx, Calls Try.prog 8 #[.int .i64 q, .int .i64 n] wx fun e w' => e = .returned (.int .i64 0) ∧ Below wx.heap.size wx w')
    (hS : ∀ wx, Below w.heap.size w wx → Calls Try.prog 16 #[.int .i64 q, .int .i64 n, .int .i64 d, .slice ao N cap] wx fun e w' => e = .returned (.tuple #[.int .i64 0, .int .i64 0, .bool false, .int .i64 10]) ∧ Below wx.heap.size wx w') :
    Calls Try.prog 4 #[.int .i64 q, .int .i64 n, .int .i64 d, .slice ao N cap] w fun e w' => e = .returned (.bool true) ∧ Below w.heap.size w w' := by
  have HK : Hid (∀ wx, Calls Try.prog 8 #[.int .i64 q, .int .i64 n] wx fun e w' => e = .returned (.int .i64 0) ∧ Below wx.heap.size wx w') := hK
  have HS : Hid (∀ wx, Below w.heap.size w wx → Calls Try.prog 16 #[.int .i64 q, .int .i64 n, .int .i64 d, .slice ao N cap] wx fun e w' => e = .returned (.tuple #[.int .i64 0, .int .i64 0, .bool false, .int .i64 10]) ∧ Below wx.heap.size wx w') := hS
  clear hK hS
  have hNb : ¬ (N : Int) > 100 := by omega
  have hNb2 : ¬ (100 : Int) < (N : Int) := by omega
  have h2b : d > n := h2
  go_enter Try.func4, Try.ntmps4
  go_wp2_with fail
  refine (HK.out _).mono ?_
  rintro e w1 ⟨rfl, hb⟩
  have H1 : Hid (Below w.heap.size w w1) := hb
  clear hb
  go_wp2
  go_loopw [9, 10] (fun ve vi wr => ve = .int .i64 10 ∧ vi = .int .i64 0 ∧ Hid (Below w.heap.size w wr)) (fun _ _ _ => 0)
  case atStart => exact ⟨by first | rfl | trivial, rfl, H1.out⟩
  case round =>
    obtain ⟨rfl, rfl, HV⟩ := hrel
    clear H1
    by_cases hN0 : (0 : Int) < (N : Int)
    · go_wp2
      go_loopw [11, 12, 13] (fun vu vo vx wr => vu = .int .i64 0 ∧ vo = .bool false ∧ vx = .int .i64 0 ∧ Hid (Below w.heap.size w wr)) (fun _ _ _ _ => 0)
      case atStart => exact ⟨rfl, rfl, rfl, HV.out⟩
      case round =>
        obtain ⟨rfl, rfl, rfl, HV2⟩ := hrel
        by_cases hn0 : (0 : Int) ≤ n
        · go_wp2_with fail
          refine (HS.out _ HV2.out).mono ?_
          rintro e w5 ⟨rfl, hb⟩
          have H5 : Hid (Below w.heap.size w w5) := bel_up' HV2.out hb
          clear hb
          go_wp2
          go_ret
          exact ⟨by simp, H5.out⟩
        · go_wp2_with fail
          refine (HS.out _ HV2.out).mono ?_
          rintro e w5 ⟨rfl, hb⟩
          have H5 : Hid (Below w.heap.size w w5) := bel_up' HV2.out hb
          clear hb
          go_wp2
          go_ret
          exact ⟨by simp, H5.out⟩
    · go_wp2
      go_loopw [11, 12, 13] (fun vu vo vx wr => vu = .int .i64 0 ∧ vo = .bool false ∧ vx = .int .i64 0 ∧ Hid (Below w.heap.size w wr)) (fun _ _ _ _ => 0)
      case atStart => exact ⟨rfl, rfl, rfl, HV.out⟩
      case round =>
        obtain ⟨rfl, rfl, rfl, HV2⟩ := hrel
        by_cases hn0 : (0 : Int) ≤ n
        · go_wp2_with fail
          refine (HS.out _ HV2.out).mono ?_
          rintro e w5 ⟨rfl, hb⟩
          have H5 : Hid (Below w.heap.size w w5) := bel_up' HV2.out hb
          clear hb
          go_wp2
          go_ret
          exact ⟨by simp, H5.out⟩
        · go_wp2_with fail
          refine (HS.out _ HV2.out).mono ?_
          rintro e w5 ⟨rfl, hb⟩
          have H5 : Hid (Below w.heap.size w w5) := bel_up' HV2.out hb
          clear hb
          go_wp2
          go_ret
          exact ⟨by simp, H5.out⟩

set_option maxHeartbeats 4000000 in
set_option maxRecDepth 100000 in
theorem ws_cnt (q n d : Int) (h1 : 1 ≤ d) (h2 : d ≤ n) (h3 : n ≤ 30)  {ao : Option Addr} {N cap : Nat} {w : World} (hN : N ≤ 100) (h4 : (N : Int) ≠ n + 1) (hK : ∀ wx, Calls Try.prog 8 #[.int .i64 q, .int .i64 n] wx fun e w' => e = .returned (.int .i64 0) ∧ Below wx.heap.size wx w')
    (hS : ∀ wx, Below w.heap.size w wx → Calls Try.prog 16 #[.int .i64 q, .int .i64 n, .int .i64 d, .slice ao N cap] wx fun e w' => e = .returned (.tuple #[.int .i64 0, .int .i64 0, .bool false, .int .i64 6]) ∧ Below wx.heap.size wx w') :
    Calls Try.prog 4 #[.int .i64 q, .int .i64 n, .int .i64 d, .slice ao N cap] w fun e w' => e = .returned (.bool true) ∧ Below w.heap.size w w' := by
  have HK : Hid (∀ wx, Calls Try.prog 8 #[.int .i64 q, .int .i64 n] wx fun e w' => e = .returned (.int .i64 0) ∧ Below wx.heap.size wx w') := hK
  have HS : Hid (∀ wx, Below w.heap.size w wx → Calls Try.prog 16 #[.int .i64 q, .int .i64 n, .int .i64 d, .slice ao N cap] wx fun e w' => e = .returned (.tuple #[.int .i64 0, .int .i64 0, .bool false, .int .i64 6]) ∧ Below wx.heap.size wx w') := hS
  clear hK hS
  have hNb : ¬ (N : Int) > 100 := by omega
  have hNb2 : ¬ (100 : Int) < (N : Int) := by omega
  have h1b : ¬ d < 1 := by omega
  have h2b : ¬ d > n := by omega
  have h2c : ¬ n < d := by omega
  have hz : ((N : Int) != n + 1) = true := by rw [bne_iff_ne]; exact h4
  go_enter Try.func4, Try.ntmps4
  go_wp2_with fail
  refine (HK.out _).mono ?_
  rintro e w1 ⟨rfl, hb⟩
  have H1 : Hid (Below w.heap.size w w1) := hb
  clear hb
  go_wp2
  go_loopw [9, 10] (fun ve vi wr => ve = .int .i64 6 ∧ vi = .int .i64 0 ∧ Hid (Below w.heap.size w wr)) (fun _ _ _ => 0)
  case atStart => exact ⟨by first | rfl | trivial, rfl, H1.out⟩
  case round =>
    obtain ⟨rfl, rfl, HV⟩ := hrel
    clear H1
    by_cases hN0 : (0 : Int) < (N : Int)
    · go_wp2
      go_loopw [11, 12, 13] (fun vu vo vx wr => vu = .int .i64 0 ∧ vo = .bool false ∧ vx = .int .i64 0 ∧ Hid (Below w.heap.size w wr)) (fun _ _ _ _ => 0)
      case atStart => exact ⟨rfl, rfl, rfl, HV.out⟩
      case round =>
        obtain ⟨rfl, rfl, rfl, HV2⟩ := hrel
        by_cases hn0 : (0 : Int) ≤ n
        · go_wp2_with fail
          refine (HS.out _ HV2.out).mono ?_
          rintro e w5 ⟨rfl, hb⟩
          have H5 : Hid (Below w.heap.size w w5) := bel_up' HV2.out hb
          clear hb
          go_wp2
          go_ret
          exact ⟨by simp, H5.out⟩
        · go_wp2_with fail
          refine (HS.out _ HV2.out).mono ?_
          rintro e w5 ⟨rfl, hb⟩
          have H5 : Hid (Below w.heap.size w w5) := bel_up' HV2.out hb
          clear hb
          go_wp2
          go_ret
          exact ⟨by simp, H5.out⟩
    · go_wp2
      go_loopw [11, 12, 13] (fun vu vo vx wr => vu = .int .i64 0 ∧ vo = .bool false ∧ vx = .int .i64 0 ∧ Hid (Below w.heap.size w wr)) (fun _ _ _ _ => 0)
      case atStart => exact ⟨rfl, rfl, rfl, HV.out⟩
      case round =>
        obtain ⟨rfl, rfl, rfl, HV2⟩ := hrel
        by_cases hn0 : (0 : Int) ≤ n
        · go_wp2_with fail
          refine (HS.out _ HV2.out).mono ?_
          rintro e w5 ⟨rfl, hb⟩
          have H5 : Hid (Below w.heap.size w w5) := bel_up' HV2.out hb
          clear hb
          go_wp2
          go_ret
          exact ⟨by simp, H5.out⟩
        · go_wp2_with fail
          refine (HS.out _ HV2.out).mono ?_
          rintro e w5 ⟨rfl, hb⟩
          have H5 : Hid (Below w.heap.size w w5) := bel_up' HV2.out hb
          clear hb
          go_wp2
          go_ret
          exact ⟨by simp, H5.out⟩
end Go.Proofs.Ytnjbnamcedfjaaa
